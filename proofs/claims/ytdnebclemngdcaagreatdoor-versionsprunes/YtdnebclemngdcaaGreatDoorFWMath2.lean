/- stored: a commit is kept; What is put whole, or in parts, turned around: plain mathematics; What may be read of what is put whole, or in parts, turned around: plain mathematics. -/
import Derived.Test.YtdnebclemngdcaaGreatDoorFWPut
import Derived.Test.YtdnebclemngdcaaGreatDoorFWReadB
import Derived.Test.YtdnebclemngdcaaGreatDoorFWNew
namespace Go.Proofs.YtdnebclemngdcaaGreatDoor
open Go.RowKit Go.Sort Go.Maps
set_option maxRecDepth 100000
set_option linter.unusedSectionVars false
variable [Inhabited ComV] [DecidableEq D3] [Inhabited D3] [Inhabited Dd] [Inhabited Dn] [Inhabited OpV]

def storedOp : OpV := ⟨0, ⟨#[107]⟩, 2, ⟨#[]⟩, 5, false, []⟩
def storedC : ComV := ⟨[1], 0, [storedOp]⟩
def storedS : St := ⟨[0], [storedC], [⟨0, 1, 0⟩]⟩
theorem stored_err : comErr storedC = (0, none) := by kernel_rfl
theorem stored_put : putTo ⟨[0], [], []⟩ storedC 1 = storedS := by rfl
theorem stored_one : seenL storedS ⟨#[107]⟩ [1] = [storedC] := by rfl
theorem stored_none : seenL storedS ⟨#[107]⟩ [0] = [] := by rfl
theorem stored_once : (onceA [storedC]).filter (fun x => decide (x.o.key = ⟨#[107]⟩)) = [⟨storedOp, ⟨0, 1, 0⟩, 1⟩] := by rfl
theorem stored_val {ds : List Dn} (h : IsOps ⟨#[107]⟩ [storedC] ds) : valA ds = ⟨2, ByteArray.empty, 5, []⟩ := by
  rw [isOps_eq h (ys := [⟨storedOp, ⟨0, 1, 0⟩, 1⟩]) ⟨by rw [stored_once], List.pairwise_singleton _ _⟩]
  rfl
theorem stored_val0 {ds : List Dn} (h : IsOps ⟨#[107]⟩ [] ds) : valA ds = ⟨0, ByteArray.empty, 0, []⟩ := by
  rw [isOps_eq h (ys := []) ⟨by rfl, List.Pairwise.nil⟩]
  rfl
theorem stored_st : StOk storedS 1 := by
  have hc : ComOk storedC := comOk_of (by rw [stored_err])
  refine ⟨by rfl, rfl, fun c h => ?_, fun c h => ?_, fun c h => ?_⟩
  · obtain rfl : c = storedC := by simpa [storedS] using h
    exact hc
  · obtain rfl : c = storedC := by simpa [storedS] using h
    rfl
  · obtain rfl : c = storedC := by simpa [storedS] using h
    exact ⟨by decide, by decide, fun o ho => by
      obtain rfl : o = storedOp := by simpa [storedC] using ho
      exact ⟨by decide, by decide⟩⟩
theorem stored_com (w : World) : ComT ((w.alloc (.cells #[.int .i64 1] 3)).alloc (.cells #[.int .i64 0, .string ⟨#[107]⟩, .int .i64 2, .string ⟨#[]⟩, .int .i64 5, .bool false, .slice none 0 0] 76)) [.slice (some ⟨w.heap.size, 0, none⟩) 1 1, .int .i64 0, .slice (some ⟨w.heap.size + 1, 0, none⟩) 1 1] storedC := by
  have h1 : ((w.alloc (.cells #[.int .i64 1] 3)).alloc (.cells #[.int .i64 0, .string ⟨#[107]⟩, .int .i64 2, .string ⟨#[]⟩, .int .i64 5, .bool false, .slice none 0 0] 76)).heap[w.heap.size]? = some (.cells #[.int .i64 1] 3 (0, 0)) := by
    rw [(MapKept.heap_alloc _ _).2 _ (by simp)]; exact (MapKept.heap_alloc _ _).1
  have h2 : ((w.alloc (.cells #[.int .i64 1] 3)).alloc (.cells #[.int .i64 0, .string ⟨#[107]⟩, .int .i64 2, .string ⟨#[]⟩, .int .i64 5, .bool false, .slice none 0 0] 76)).heap[w.heap.size + 1]? = some (.cells #[.int .i64 0, .string ⟨#[107]⟩, .int .i64 2, .string ⟨#[]⟩, .int .i64 5, .bool false, .slice none 0 0] 76 (0, 0)) := by
    have := (MapKept.heap_alloc (w.alloc (.cells #[.int .i64 1] 3)) (.cells #[.int .i64 0, .string ⟨#[107]⟩, .int .i64 2, .string ⟨#[]⟩, .int .i64 5, .bool false, .slice none 0 0] 76)).1
    rwa [World.size_alloc] at this
  refine ⟨_, _, rfl, rowT_lit (rows := [[.int .i64 1]]) h1 rfl (fun r hr => by obtain rfl := List.mem_singleton.1 hr; rfl) (by decide), ⟨[opCells storedOp (.slice none 0 0)], rowT_lit (rows := [opCells storedOp (.slice none 0 0)]) h2 rfl (fun r hr => by obtain rfl := List.mem_singleton.1 hr; rfl) (by decide), ⟨⟨.slice none 0 0, rfl, ⟨none, 0, rfl, (fun _ => rfl), Nat.le_refl _, .inl rfl⟩⟩, trivial⟩⟩⟩
/-- A put into a store of one's own leaves all else. -/
theorem below_turn {w w1 w2 w3 : World} {mb db : Nat} {f f' : ByteArray → Value} (hb1 : Below w.heap.size w w1) (hb2 : Below w1.heap.size w1 w2) (ht : Turn w2 w3 mb db f f') (hm : w.heap.size ≤ mb) (hd : w.heap.size ≤ db) (hf : ∀ k b, (f k).ownBlock = some b → w.heap.size ≤ b) : Below w.heap.size w w3 := by
  have h1 := hb1.size
  have h2 := hb2.size
  refine ⟨ht.os.trans (hb2.os.trans hb1.os), ht.tape.trans (hb2.tape.trans hb1.tape), ht.output.trans (hb2.output.trans hb1.output), Nat.le_trans h1 (Nat.le_trans h2 ht.size), fun b hb => ?_⟩
  rw [ht.block b (by omega) (by omega) (by omega) (fun k e => by have := hf k b e; omega), hb2.block b (by omega)]
  exact hb1.block b hb
set_option maxHeartbeats 4000000 in
theorem stored_ok (A : Nat → Addr) (w : World) (hE : E4 A w) (h12 : 12 ≤ w.heap.size) : Calls Tryz.prog 6 #[] w fun e w' => e = .returned (.bool true) ∧ Below w.heap.size w w' := by
  have HE := hid hE
  clear hE
  go_enter Tryz.func6, Tryz.ntmps6
  go_wp2_with fail
  refine (new_ok w 1 (by omega) (by omega)).mono ?_
  rintro e w1 ⟨p, mb, db, rfl, hp, hm, hd, hV, hb⟩
  have V1 := hid hV
  have B1 := hid hb
  clear hV hb
  go_wp2_with fail
  obtain ⟨w2, hw2⟩ : ∃ w2, w2 = ((w1.alloc (.cells #[.int .i64 1] 3)).alloc (.cells #[.int .i64 0, .string ⟨#[107]⟩, .int .i64 2, .string ⟨#[]⟩, .int .i64 5, .bool false, .slice none 0 0] 76)) := ⟨_, rfl⟩
  have hb12 : Below w1.heap.size w1 w2 := by rw [hw2]; exact below2 _ _ _
  have hC2 := stored_com w1
  rw [← hw2] at hC2 ⊢
  have hbs := B1.out.size
  have hbs2 := hb12.size
  have K9 := put_ok A w2 (HE.out.below (B1.out.trans (hb12.mono hbs)) h12) (by omega) p mb db 0 _ ⟨[0], [], []⟩ (V1.out.moved hb12) (by omega) (fun k => by show ([] : List ComV).length ≤ _; simp) storedC _ _ hC2 (stored_st.small storedC (by simp [storedS])).2.2 stored_err rfl (by rfl) (by rfl) (fun o ho h => by cases h)
  refine K9.mono ?_
  rintro e w3 ⟨rfl, f3, hV3, hT3, hK3⟩
  have hV3' : VerAt w3 p mb db f3 storedS 24 := by
    have := hV3
    rw [show storedC.ops.length = 1 from rfl, stored_put] at this
    exact this
  have B3 := hid (below_turn B1.out hb12 hT3 hm hd (fun k b h => by cases h))
  have V3 := hid hV3'
  clear hV3 hV3' hT3 hK3 K9 hC2 hw2 hb12
  go_wp2_with fail
  have hb34 := below_alloc w3 (.cells #[.int .i64 1] 3)
  have K14 := read_ok A (w3.alloc (.cells #[.int .i64 1] 3)) (HE.out.below (B3.out.trans (hb34.mono B3.out.size)) h12) (by have := B3.out.size; simp; omega) p mb db 24 1 f3 storedS (V3.out.moved hb34) stored_st ⟨#[107]⟩ (by kernel_rfl) (by decide) (.slice (some ⟨w3.heap.size, 0, none⟩) 1 1) [1] (lit_ints w3 #[.int .i64 1] 3 [1] rfl _ _ _ rfl rfl) (by rfl) rfl (by rfl) (by first | decide | exact Nat.le_of_ble_eq_true rfl)
  refine K14.mono ?_
  rintro e w5 ⟨v5, ds5, rfl, hI5, hva5, hb5⟩
  rw [stored_one] at hI5
  rw [stored_val hI5] at hva5
  obtain ⟨sv5, rfl, a5, c5, hs5, _⟩ := hva5
  subst hs5
  have B5 := hid ((B3.out.trans (hb34.mono B3.out.size)).trans (hb5.mono (B3.out.trans (hb34.mono B3.out.size)).size))
  have V5 := hid ((V3.out.moved hb34).moved hb5)
  clear hb34 K14 hI5 hb5
  go_wp2_with fail
  obtain ⟨w6, hw6⟩ : ∃ w6, w6 = w5.alloc (.cells #[.int .i64 2, .string ByteArray.empty, .int .i64 5, .slice a5 0 c5] 41) := ⟨_, rfl⟩
  have hb56 : Below w5.heap.size w5 w6 := by rw [hw6]; exact below_alloc _ _
  have x6 : w6.heap[w5.heap.size]? = some (.cells #[.int .i64 2, .string ByteArray.empty, .int .i64 5, .slice a5 0 c5] 41 (0, 0)) := by rw [hw6]; exact (MapKept.heap_alloc _ _).1
  have hs6 : w6.heap.size = w5.heap.size + 1 := by rw [hw6, World.size_alloc]
  rw [← hw6]
  have hb67 := below_alloc w6 (.cells #[.int .i64 0] 3)
  have hb57 := hb56.trans (hb67.mono hb56.size)
  have K14 := read_ok A (w6.alloc (.cells #[.int .i64 0] 3)) (HE.out.below (B5.out.trans (hb57.mono B5.out.size)) h12) (by have := B5.out.size; simp; omega) p mb db 24 1 f3 storedS (V5.out.moved hb57) stored_st ⟨#[107]⟩ (by kernel_rfl) (by decide) (.slice (some ⟨w5.heap.size + 1, 0, none⟩) 1 1) [0] (lit_ints w6 #[.int .i64 0] 3 [0] rfl _ _ _ hs6.symm rfl) (by rfl) rfl (by rfl) (by first | decide | exact Nat.le_of_ble_eq_true rfl)
  refine K14.mono ?_
  rintro e w8 ⟨v8, ds8, rfl, hI8, hva8, hb8⟩
  rw [stored_none] at hI8
  rw [stored_val0 hI8] at hva8
  obtain ⟨sv8, rfl, a8, c8, hs8, _⟩ := hva8
  subst hs8
  have x8 : w8.heap[w5.heap.size]? = some (.cells #[.int .i64 2, .string ByteArray.empty, .int .i64 5, .slice a5 0 c5] 41 (0, 0)) := by
    rw [hb8.block _ (by simp; omega), hb67.block _ (by omega)]; exact x6
  have y2 : w8.cell? ⟨w5.heap.size, 2, none⟩ = some (.int .i64 5) := by simp only [World.cell?, x8]; rfl
  have y2a := fun o => cell_alloc y2 o
  have hb9 := B5.out.trans (hb57.mono B5.out.size)
  have B8 := hid (hb9.trans (hb8.mono hb9.size))
  clear hb56 x6 hb67 hb57 K14 hI8 hb8 x8 hb9 hw6 hs6
  go_wp2_with fail
  go_ret
  exact ⟨rfl, B8.out.alloc B8.out.size _⟩
end Go.Proofs.YtdnebclemngdcaaGreatDoor
namespace Go.Proofs.YtdnebclemngdcaaGreatDoor
open Go.RowKit Go.Sort Go.Maps
set_option maxRecDepth 100000
set_option linter.unusedSectionVars false
variable [Inhabited ComV] [DecidableEq D3] [Inhabited D3] [Inhabited Dd] [Inhabited Dn] [Inhabited OpV]

def partsC (c : ComV) : List ComV := c.ops.map (partC c)
def dotsC (c : ComV) : List D3 := c.ops.map (dotC c)
/-- The store that holds these commits. -/
def stOf (nb : Nat) (l : List ComV) : St := ⟨List.replicate nb 0, l.flatMap partsC, l.flatMap dotsC⟩
theorem stOf_nil (nb : Nat) : stOf nb [] = ⟨List.replicate nb 0, [], []⟩ := rfl
theorem stOf_put (nb : Nat) (l : List ComV) (c : ComV) : putTo (stOf nb l) c c.ops.length = stOf nb (l ++ [c]) := by
  unfold putTo stOf partsC dotsC
  rw [List.take_length, List.flatMap_append, List.flatMap_append]
  simp
/-- May this commit be put? -/
structure PutOk (s : St) (c : ComV) : Prop where
  err : comErr c = (0, none)
  len : c.when_.length = s.base.length
  old : leB c.when_ s.base = false
  new : ∀ o ∈ c.ops, dotC c o ∉ s.dots
/-- What was kept: each a commit of so many places, not old, no dot twice. -/
structure KeptL (nb : Nat) (l : List ComV) : Prop where
  ok : ∀ c ∈ l, ComOk c
  len : ∀ c ∈ l, c.when_.length = nb
  old : ∀ c ∈ l, leB c.when_ (List.replicate nb 0) = false
  dots : (l.flatMap dotsC).Nodup
theorem KeptL.nil (nb : Nat) : KeptL nb [] := ⟨fun _ h => by simp at h, fun _ h => by simp at h, fun _ h => by simp at h, by simp⟩
theorem dotsC_nodup {c : ComV} (h : ComOk c) : (dotsC c).Nodup := by
  unfold dotsC
  rw [List.nodup_iff_pairwise_ne, List.pairwise_map, List.pairwise_iff_getElem]
  intro i j hi hj hij e
  have h1 := at_rise h.ops i j hij hj
  rw [getElem!_pos c.ops i hi, getElem!_pos c.ops j hj] at h1
  have h2 : (dotC c c.ops[i]).a = (dotC c c.ops[j]).a := by rw [e]
  have h3 : c.ops[i].at_ = c.ops[j].at_ := h2
  omega
theorem KeptL.snoc {nb : Nat} {l : List ComV} (h : KeptL nb l) {c : ComV} (hp : PutOk (stOf nb l) c) : KeptL nb (l ++ [c]) := by
  have hc : ComOk c := comOk_of (by rw [hp.err])
  refine ⟨fun x hx => ?_, fun x hx => ?_, fun x hx => ?_, ?_⟩
  · rcases List.mem_append.1 hx with hx | hx
    · exact h.ok x hx
    · obtain rfl := List.mem_singleton.1 hx; exact hc
  · rcases List.mem_append.1 hx with hx | hx
    · exact h.len x hx
    · obtain rfl := List.mem_singleton.1 hx
      have := hp.len
      simpa [stOf] using this
  · rcases List.mem_append.1 hx with hx | hx
    · exact h.old x hx
    · obtain rfl := List.mem_singleton.1 hx; exact hp.old
  · rw [List.flatMap_append, List.nodup_append]
    refine ⟨h.dots, by simpa using dotsC_nodup hc, fun a ha b hb e => ?_⟩
    subst e
    simp only [List.flatMap_cons, List.flatMap_nil, List.append_nil] at hb
    obtain ⟨o, ho, rfl⟩ := List.mem_map.1 hb
    exact hp.new o ho ha
/-- A commit, cut: its dots and its parts are the same, turned around. -/
theorem cut_perm {β : Type} (cut : Int) (c : ComV) (g : List Int → Int → OpV → β) : ((cutC cut c).flatMap fun x => x.ops.map (g x.when_ x.place)).Perm (c.ops.map (g c.when_ c.place)) := by
  unfold cutC
  split
  · simp only [List.flatMap_cons, List.flatMap_nil, List.append_nil]
    refine List.perm_append_comm.trans ?_
    rw [← List.map_append, List.take_append_drop]
  · simp
theorem turned_perm {β : Type} (cut : Int) (g : List Int → Int → OpV → β) : ∀ l : List ComV, ((l.reverse.flatMap (cutC cut)).flatMap fun x => x.ops.map (g x.when_ x.place)).Perm (l.flatMap fun x => x.ops.map (g x.when_ x.place))
  | [] => List.Perm.refl _
  | c :: l => by
    rw [List.reverse_cons, List.flatMap_append, List.flatMap_append]
    refine List.perm_append_comm.trans ?_
    rw [List.flatMap_cons]
    refine List.Perm.append ?_ (turned_perm cut g l)
    simpa using cut_perm cut c g
def turnAll (cut : Int) (l : List ComV) : List ComV := l.reverse.flatMap (cutC cut)
theorem turnAll_dots (cut : Int) (l : List ComV) : ((turnAll cut l).flatMap dotsC).Perm (l.flatMap dotsC) := turned_perm cut (fun wh p o => (⟨p, wh.getD p.toNat 0, o.at_⟩ : D3)) l
theorem turnAll_parts (cut : Int) (l : List ComV) : ((turnAll cut l).flatMap partsC).Perm (l.flatMap partsC) := turned_perm cut (fun wh p o => (⟨wh, p, [o]⟩ : ComV)) l
theorem turnAll_kept {nb : Nat} {l : List ComV} (h : KeptL nb l) (cut : Int) : KeptL nb (turnAll cut l) := by
  have mem : ∀ x ∈ turnAll cut l, ∃ c ∈ l, x ∈ cutC cut c := fun x hx => by
    obtain ⟨c, hc, hx⟩ := List.mem_flatMap.1 hx
    exact ⟨c, List.mem_reverse.1 hc, hx⟩
  refine ⟨fun x hx => ?_, fun x hx => ?_, fun x hx => ?_, (turnAll_dots cut l).nodup_iff.2 h.dots⟩
  · obtain ⟨c, hc, hx⟩ := mem x hx
    exact comOk_part (h.ok c hc) hx
  · obtain ⟨c, hc, hx⟩ := mem x hx
    rw [(cutC_mem hx).1]; exact h.len c hc
  · obtain ⟨c, hc, hx⟩ := mem x hx
    rw [(cutC_mem hx).1]; exact h.old c hc
/-- Each of what was kept may be put behind those ahead of it. -/
theorem KeptL.put {nb : Nat} {pre post : List ComV} {x : ComV} (h : KeptL nb (pre ++ x :: post)) : PutOk (stOf nb pre) x := by
  have hx : x ∈ pre ++ x :: post := by simp
  refine ⟨comErr_zero (comErr_of (h.ok x hx)), by rw [h.len x hx]; simp [stOf], h.old x hx, fun o ho hd => ?_⟩
  have hn := h.dots
  rw [List.flatMap_append, List.nodup_append] at hn
  exact hn.2.2 _ hd _ (by rw [List.flatMap_cons]; exact List.mem_append_left _ (List.mem_map.2 ⟨o, ho, rfl⟩)) rfl
theorem KeptL.init {nb : Nat} {pre post : List ComV} (h : KeptL nb (pre ++ post)) : KeptL nb pre := by
  refine ⟨fun c hc => h.ok c (List.mem_append_left _ hc), fun c hc => h.len c (List.mem_append_left _ hc), fun c hc => h.old c (List.mem_append_left _ hc), ?_⟩
  have := h.dots
  rw [List.flatMap_append, List.nodup_append] at this
  exact this.1
end Go.Proofs.YtdnebclemngdcaaGreatDoor
namespace Go.Proofs.YtdnebclemngdcaaGreatDoor
open Go.RowKit Go.Sort Go.Maps
set_option maxRecDepth 100000
set_option linter.unusedSectionVars false
variable [Inhabited ComV] [DecidableEq D3] [Inhabited D3] [Inhabited Dd] [Inhabited Dn] [Inhabited OpV]

theorem chk_zeros {nb : Nat} (h1 : 1 ≤ nb) (h6 : nb ≤ 6) : chk (List.replicate nb 0) = 0 := by
  rw [chk_zero]
  refine ⟨by simpa using h1, by simpa using h6, fun t ht => ?_⟩
  have : (List.replicate nb (0 : Int)).getD t 0 = 0 := by
    rw [List.getD_eq_getElem?_getD, List.getElem?_replicate]
    split <;> rfl
  rw [this]
  omega
theorem comOk_one {c : ComV} (h : ComOk c) {o : OpV} (ho : o ∈ c.ops) : ComOk (partC c o) := by
  refine ⟨h.chk, h.lo, h.hi, h.time, by simp [partC], by simp [partC], fun i hi => ?_⟩
  obtain ⟨j, hj, rfl⟩ := List.getElem_of_mem ho
  have e : (c.ops.drop j).take 1 = [c.ops[j]] := by
    rw [List.drop_eq_getElem_cons hj]
    rfl
  have := opBad_part (s := j) (m := 1) (i := i) h.ops (by rw [e]; simpa [partC] using hi)
  rw [e] at this
  exact this
theorem stOf_ok {nb : Nat} {l : List ComV} (h : KeptL nb l) (h1 : 1 ≤ nb) (h6 : nb ≤ 6) (hs : ∀ c ∈ l, SmallC c) : StOk (stOf nb l) nb := by
  have mem : ∀ x ∈ (stOf nb l).parts, ∃ c ∈ l, ∃ o ∈ c.ops, x = partC c o := fun x hx => by
    obtain ⟨c, hc, hx⟩ := List.mem_flatMap.1 hx
    obtain ⟨o, ho, rfl⟩ := List.mem_map.1 hx
    exact ⟨c, hc, o, ho, rfl⟩
  refine ⟨chk_zeros h1 h6, by simp [stOf], fun x hx => ?_, fun x hx => ?_, fun x hx => ?_⟩
  · obtain ⟨c, hc, o, ho, rfl⟩ := mem x hx
    exact comOk_one (h.ok c hc) ho
  · obtain ⟨c, hc, o, ho, rfl⟩ := mem x hx
    exact h.len c hc
  · obtain ⟨c, hc, o, ho, rfl⟩ := mem x hx
    refine ⟨(hs c hc).1, by simp [partC], fun o' ho' => ?_⟩
    obtain rfl : o' = o := by simpa [partC] using ho'
    exact (hs c hc).2.2 _ ho
theorem rowOf_perm (nb : Nat) (l : List ComV) (cut : Int) (k : ByteArray) : (rowOf (stOf nb (turnAll cut l)) k).Perm (rowOf (stOf nb l) k) := (turnAll_parts cut l).filter _
theorem seenL_perm (nb : Nat) (l : List ComV) (cut : Int) (k : ByteArray) (at_ : List Int) : (seenL (stOf nb (turnAll cut l)) k at_).Perm (seenL (stOf nb l) k at_) := (rowOf_perm nb l cut k).filter _
theorem flat_parts (l : List ComV) : (flatA (l.flatMap partsC)).map (·.dot) = l.flatMap dotsC := by
  induction l with
  | nil => rfl
  | cons c l ih =>
    rw [List.flatMap_cons, List.flatMap_cons, ← ih]
    unfold flatA
    rw [List.flatMap_append, List.map_append]
    congr 1
    unfold partsC dotsC
    induction c.ops with
    | nil => rfl
    | cons o os ih2 =>
      rw [List.map_cons, List.flatMap_cons, List.map_append, List.map_cons, ← ih2]
      rfl
theorem oneDot_parts {nb : Nat} {l : List ComV} (h : KeptL nb l) : OneDot (l.flatMap partsC) := by
  have hn := h.dots
  rw [← flat_parts] at hn
  rw [List.nodup_iff_pairwise_ne, List.pairwise_map] at hn
  intro a ha b hb e
  obtain ⟨i, hi, rfl⟩ := List.getElem_of_mem ha
  obtain ⟨j, hj, rfl⟩ := List.getElem_of_mem hb
  rw [List.pairwise_iff_getElem] at hn
  rcases Nat.lt_trichotomy i j with h1 | h1 | h1
  · exact absurd e (hn i j hi hj h1)
  · subst h1; rfl
  · exact absurd e.symm (hn j i hj hi h1)
theorem flat_sub {l l' : List ComV} (h : ∀ c ∈ l, c ∈ l') {d : Dn} (hd : d ∈ flatA l) : d ∈ flatA l' := by
  obtain ⟨c, hc, hd⟩ := flat_mem.1 hd
  exact flat_mem.2 ⟨c, h c hc, hd⟩
/-- Both tell the same. -/
theorem ops_turned {nb : Nat} {l : List ComV} (h : KeptL nb l) (cut : Int) (key : ByteArray) (at_ : List Int) {ds ds' : List Dn} (h1 : IsOps key (seenL (stOf nb l) key at_) ds) (h2 : IsOps key (seenL (stOf nb (turnAll cut l)) key at_) ds') : ds' = ds := by
  have hp := seenL_perm nb l cut key at_
  refine isOps_turned (fun a ha b hb e => ?_) (fun d => ⟨flat_sub fun c hc => hp.mem_iff.1 hc, flat_sub fun c hc => hp.mem_iff.2 hc⟩) h1 h2
  have hs : ∀ c ∈ seenL (stOf nb l) key at_, c ∈ l.flatMap partsC := fun c hc => seenL_mem hc
  exact oneDot_parts h a (flat_sub hs ha) b (flat_sub hs hb) e
theorem rowOf_few {nb : Nat} {l : List ComV} (h : KeptL nb l) (hl : l.length ≤ 80) (k : ByteArray) : (rowOf (stOf nb l) k).length ≤ 1000 := by
  have h1 : (rowOf (stOf nb l) k).length ≤ (l.flatMap partsC).length := List.length_filter_le _ _
  have h2 : ∀ l : List ComV, (∀ c ∈ l, c.ops.length ≤ 12) → (l.flatMap partsC).length ≤ 12 * l.length := fun l => by
    induction l with
    | nil => intro _; simp
    | cons c l ih =>
      intro hc
      have h3 := ih (fun x hx => hc x (by simp [hx]))
      have h4 := hc c (by simp)
      rw [List.flatMap_cons, List.length_append, List.length_cons]
      unfold partsC at h3 ⊢
      rw [List.length_map]
      omega
  have := h2 l (fun c hc => (h.ok c hc).few)
  omega
end Go.Proofs.YtdnebclemngdcaaGreatDoor
