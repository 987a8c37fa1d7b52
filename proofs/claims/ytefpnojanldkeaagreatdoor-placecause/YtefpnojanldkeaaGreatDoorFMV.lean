/- PlaceCause: what place 1 and place 2 hear; what is read there; Slices of strings and of ints as they come in. -/
import Derived.Test.YtefpnojanldkeaaGreatDoorFNB
import Derived.Test.YtefpnojanldkeaaGreatDoorJVOp
import Derived.Test.YtefpnojanldkeaaGreatDoorJSDel
import Derived.Test.YtefpnojanldkeaaGreatDoorJVVec
import Derived.Deep.Strs
import Derived.ProofKit
import Derived.LaidMore
import Derived.OpenShut
namespace Go.Proofs.YtefpnojanldkeaaGreatDoor
open Go.RowKit Go.Maps
set_option maxRecDepth 10000
set_option linter.unusedSectionVars false
variable [Inhabited ComV] [DecidableEq D3] [Inhabited D3] [Inhabited Dd] [Inhabited Dn] [Inhabited OpV]

/-- What is sent of place f's commit and beat. -/
theorem cm_mem {f n k : Nat} {v : PlV} {c : ComV} (hid_ : v.id = f) (hn : v.n = n) (hk : v.k = k) (hs : ∀ j s, v.line j s → (v.Y j s).sq = 0) (ht : timeC c = 1) {x : MsgV} : x ∈ allMs (sendT (comV1 v c) c) v.id v.k v.n ↔ ∃ t s, t < n ∧ t ≠ f ∧ s < k ∧ qS c k s = 1 ∧ x = cmM f t c k s := by
  rw [sent_mem hs ht, hid_, hk]
  constructor
  · rintro ⟨j, s, q, h1, h2⟩
    exact ⟨j, s, by have := q.1; omega, by have := q.2.1; omega, by have := q.2.2; omega, h1, h2⟩
  · rintro ⟨j, s, h1, h2, h3, h4, h5⟩
    exact ⟨j, s, ⟨by omega, by omega, by omega⟩, h4, h5⟩
theorem bm_mem {f n k : Nat} {v : PlV} {c : ComV} (hid_ : v.id = f) (hn : v.n = n) (hk : v.k = k) (hs : ∀ j s, v.line j s → (v.Y j s).sq = 0) (hck : v.ck = 0) {x : MsgV} : x ∈ allMs (beatT (pv2 v c)) (pv2 v c).id (pv2 v c).k (pv2 v c).n ↔ ∃ t s, t < n ∧ t ≠ f ∧ s < k ∧ x = bmM f t c k s := by
  rw [beat_mem hs hck, hid_, hk]
  constructor
  · rintro ⟨j, s, q, h1⟩
    exact ⟨j, s, by have := q.1; omega, by have := q.2.1; omega, by have := q.2.2; omega, h1⟩
  · rintro ⟨j, s, h1, h2, h3, h4⟩
    exact ⟨j, s, ⟨by omega, by omega, by omega⟩, h4⟩
/-- Place 1 goes over what place 0 sent: behind i of the messages. -/
structure QI (w : World) (a b : ByteArray) (k : Nat) (hp : PlH) (vp : PlV) (hq : PlH) (vq : PlV) (hz : PlH) (vz : PlV) (lv : Value) (rs : List Raw) (ms : List MsgV) (i : Nat) (W : World) : Prop where
  tr : TrI w hp vp hq vq hz vz lv rs ms W
  rc : RcI 3 1 k (CC a b) (· = 0) i hq vq
  heard : ∀ idx m, idx < i → ms[idx]? = some m → m.to_ = 1 → (m.beat = false ∨ qS (CC a b 0) k m.shard.toNat = 0) → (vq.Y 0 m.shard.toNat).rt = 1
/-- What place 0 sent. -/
def PMsg (a b : ByteArray) (k : Nat) (m : MsgV) : Prop := ∃ t s, t < 3 ∧ t ≠ 0 ∧ s < k ∧ ((qS (CC a b 0) k s = 1 ∧ m = cmM 0 t (CC a b 0) k s) ∨ m = bmM 0 t (CC a b 0) k s)
theorem PMsg.c {a b : ByteArray} {k : Nat} {m : MsgV} (h : PMsg a b k m) : CMsg a b k m := by
  obtain ⟨t, s, h1, h2, h3, h4⟩ := h
  exact ⟨0, t, s, by decide, h1, h2, h3, h4⟩
variable {w W W' : World} {a b : ByteArray} {k : Nat} {hp hq hz : PlH} {vp vq vz : PlV} {lv : Value} {rs : List Raw} {ms : List MsgV} {i : Nat}
theorem f2_idx {α β : Type} {R : α → β → Prop} : ∀ {l : List α} {m : List β}, F2 R l m → ∀ (i : Nat) (x : α), l[i]? = some x → ∃ y, m[i]? = some y ∧ R x y
  | [], [], _, i, x, hx => by simp at hx
  | a :: l, b :: m, ⟨h1, h2⟩, 0, x, hx => by
    simp at hx
    subst hx
    exact ⟨b, by simp, h1⟩
  | a :: l, b :: m, ⟨h1, h2⟩, i + 1, x, hx => by
    simp at hx
    obtain ⟨y, hy, hr⟩ := f2_idx h2 i x hx
    exact ⟨y, by simpa using hy, hr⟩
/-- One that is not for place 1 is passed by. -/
theorem QI.skip (I : QI w a b k hp vp hq vq hz vz lv rs ms i W) {m : MsgV} (hm : ms[i]? = some m) (ht : m.to_ ≠ 1) : QI w a b k hp vp hq vq hz vz lv rs ms (i + 1) W := by
  refine ⟨I.tr, I.rc.step (Nat.le_refl _) fun _ _ => Nat.le_succ _, fun idx m' hi hm' ht' hb => ?_⟩
  by_cases e : idx = i
  · subst e
    rw [hm] at hm'
    obtain rfl := Option.some.inj hm'
    exact absurd ht' ht
  · exact I.heard idx m' (by omega) hm' ht' hb
theorem QI.hear (A : Nat → Addr) (I : QI w a b k hp vp hq vq hz vz lv rs ms i W) (hE : E4 A W) (h12 : 12 ≤ w.heap.size) (hi : i < 70) (hC : ∀ j, j = 0 → SrcOk 3 (CC a b) j) (hP : ∀ m ∈ ms, PMsg a b k m) {r : Raw} {m : MsgV} (hr : rs[i]? = some r) (hm : ms[i]? = some m) (ht : m.to_ = 1) :
    Calls Tryz.prog 11 #[.pointer (some ⟨hq.pb, 0, none⟩), .agg r.cells.toArray] W fun e W' => ∃ (hq' : PlH) (vq' : PlV) (a6 : Option Addr) (c6 : Nat), e = .returned (.tuple #[.slice a6 1 c6, .nilIface]) ∧ hq'.pb = hq.pb ∧ QI w a b k hp vp hq' vq' hz vz lv rs ms (i + 1) W' := by
  obtain ⟨m', hm', hown⟩ := f2_idx I.tr.own i r hr
  rw [hm] at hm'
  obtain rfl := Option.some.inj hm'
  obtain ⟨t, s, h1, h2, h3, h4⟩ := hP m (List.mem_of_getElem? hm)
  have et : t = 1 := by
    rcases h4 with ⟨_, rfl⟩ | rfl
    · have e : ((t : Nat) : Int) = 1 := ht
      omega
    · have e : ((t : Nat) : Int) = 1 := ht
      omega
  subst et
  have es : m.shard.toNat = s := by
    rcases h4 with ⟨_, rfl⟩ | rfl
    · exact Int.toNat_natCast s
    · exact Int.toNat_natCast s
  have hsz := I.tr.bel.size
  refine (hear_step A W hE (by omega) hq vq I.tr.q (fun b hb => by have := I.tr.lq b hb; omega) I.rc hi hC 0 s ⟨by rw [I.rc.vn]; decide, by rw [I.rc.vid]; decide, by rw [I.rc.vk]; exact h3⟩ rfl r m hown h4).mono ?_
  rintro e W' ⟨h', v', a6, c6, he, hP', hM, hpb, hR, hmo, hrt⟩
  refine ⟨h', v', a6, c6, he, hpb, I.tr.moveQ hP' hM, hR, fun idx m' hidx hm' ht' hb => ?_⟩
  by_cases e : idx = i
  · subst e
    rw [hm] at hm'
    obtain rfl := Option.some.inj hm'
    rw [es] at hb ⊢
    exact hrt hb
  · exact hmo _ _ (I.heard idx m' (by omega) hm' ht' hb)
/-- Behind all of them: place 1 has seen all of place 0. -/
theorem QI.done (I : QI w a b k hp vp hq vq hz vz lv rs ms i W) (hi : i = ms.length) (hc : ∀ s, s < k → qS (CC a b 0) k s = 1 → cmM 0 1 (CC a b 0) k s ∈ ms) (hb : ∀ s, s < k → bmM 0 1 (CC a b 0) k s ∈ ms) : (∀ s, s < k → (vq.Y 0 s).rt = 1) ∧ snapV vq = [1, 0, 0] := by
  have hall : ∀ s, s < k → (vq.Y 0 s).rt = 1 := fun s hs => by
    by_cases hq1 : qS (CC a b 0) k s = 1
    · obtain ⟨idx, hidx, e⟩ := List.mem_iff_getElem.1 (hc s hs hq1)
      have := I.heard idx _ (by omega) ((List.getElem?_eq_getElem hidx).trans (congrArg some e)) rfl (.inl rfl)
      rwa [show (cmM 0 1 (CC a b 0) k s).shard.toNat = s from Int.toNat_natCast s] at this
    · have hq0 : qS (CC a b 0) k s = 0 := by have := qS_le (CC a b 0) k s; omega
      obtain ⟨idx, hidx, e⟩ := List.mem_iff_getElem.1 (hb s hs)
      have es : (bmM 0 1 (CC a b 0) k s).shard.toNat = s := Int.toNat_natCast s
      have := I.heard idx _ (by omega) ((List.getElem?_eq_getElem hidx).trans (congrArg some e)) rfl (.inr (by rw [es]; exact hq0))
      rwa [es] at this
  refine ⟨hall, ?_⟩
  have k1 : 1 ≤ k := by have := I.tr.q.k1; have := I.rc.vk; omega
  have e0 : snapJ vq 0 = 1 := by
    unfold snapJ
    rw [if_neg (by rw [I.rc.vid]; decide), I.rc.vk]
    exact least_all k1 hall
  have e1 : snapJ vq 1 = 0 := by
    unfold snapJ
    rw [if_pos I.rc.vid.symm, I.rc.ck]
  have e2 : snapJ vq 2 = 0 := by
    rcases I.rc.snap k1 2 (by decide) (by decide) with e | ⟨_, e, _⟩
    · exact e
    · exact absurd e (by decide)
  unfold snapV
  rw [I.rc.vn]
  show [snapJ vq 0, snapJ vq 1, snapJ vq 2] = _
  rw [e0, e1, e2]
/-- Place 2 goes over what it picks. -/
structure ZI (w : World) (a b : ByteArray) (k : Nat) (hp : PlH) (vp : PlV) (hq : PlH) (vq : PlV) (hz : PlH) (vz : PlV) (lv : Value) (rs : List Raw) (ms : List MsgV) (i : Nat) (W : World) : Prop where
  tr : TrI w hp vp hq vq hz vz lv rs ms W
  rc : RcI 3 2 k (CC a b) (· < 2) i hz vz
theorem ZI.step (I : ZI w a b k hp vp hq vq hz vz lv rs ms i W) : ZI w a b k hp vp hq vq hz vz lv rs ms (i + 1) W := ⟨I.tr, I.rc.step (Nat.le_refl _) fun _ _ => Nat.le_succ _⟩
theorem ZI.hear (A : Nat → Addr) (I : ZI w a b k hp vp hq vq hz vz lv rs ms i W) (hE : E4 A W) (h12 : 12 ≤ w.heap.size) (hi : i < 70) (hC : ∀ j, j < 2 → SrcOk 3 (CC a b) j) (hP : ∀ m ∈ ms, CMsg a b k m) {p : Nat} {r : Raw} {m : MsgV} (hr : rs[p]? = some r) (hm : ms[p]? = some m) (ht : m.to_ = 2) :
    Calls Tryz.prog 11 #[.pointer (some ⟨hz.pb, 0, none⟩), .agg r.cells.toArray] W fun e W' => ∃ (hz' : PlH) (vz' : PlV) (a6 : Option Addr) (c6 : Nat), e = .returned (.tuple #[.slice a6 1 c6, .nilIface]) ∧ hz'.pb = hz.pb ∧ ZI w a b k hp vp hq vq hz' vz' lv rs ms (i + 1) W' := by
  obtain ⟨m', hm', hown⟩ := f2_idx I.tr.own p r hr
  rw [hm] at hm'
  obtain rfl := Option.some.inj hm'
  obtain ⟨f, t, s, hf, h1, h2, h3, h4⟩ := hP m (List.mem_of_getElem? hm)
  have et : t = 2 := by
    rcases h4 with ⟨_, rfl⟩ | rfl
    · have e : ((t : Nat) : Int) = 2 := ht
      omega
    · have e : ((t : Nat) : Int) = 2 := ht
      omega
  subst et
  have hsz := I.tr.bel.size
  refine (hear_step A W hE (by omega) hz vz I.tr.z (fun b hb => by have := I.tr.lz b hb; omega) I.rc hi hC f s ⟨by rw [I.rc.vn]; omega, by rw [I.rc.vid]; omega, by rw [I.rc.vk]; exact h3⟩ hf r m hown h4).mono ?_
  rintro e W' ⟨h', v', a6, c6, he, hP', hM, hpb, hR, _, _⟩
  exact ⟨h', v', a6, c6, he, hpb, I.tr.moveZ hP' hM, hR⟩
/-- What a place reads of a commit of one op. -/
theorem read_one (A : Nat → Addr) {n id : Nat} {C : Nat → ComV} {J : Nat → Prop} {h : PlH} {v : PlV} (hE : E4 A W) (h12 : 12 ≤ W.heap.size) (at0 : PlAt W h v) (hI : RcI n id k C J i h v) (hi : i ≤ 70) (hC : ∀ j, J j → SrcOk n C j) {ky : Nat → ByteArray} (hops : ∀ j, J j → (C j).ops = opsIdx (cOps [ky j])) (hky : ∀ j j', J j → J j' → ky j = ky j' → j = j') {j : Nat} (hJ : J j) (hj : j < n) (hne : j ≠ id) (hnm : nameB (ky j) = true) (va : Option Addr) (vn vc : Nat) (hv : IntsAt W (.slice va vn vc) (snapV v)) :
    Calls Tryz.prog 13 #[.pointer (some ⟨h.pb, 0, none⟩), .string (ky j), .slice va vn vc] W fun e W' => ∃ (kd : Int) (t : ByteArray) (x : Int) (sa : Option Addr) (sn sc : Nat), e = .returned (.tuple #[.agg #[.int .i64 kd, .string t, .int .i64 x, .slice sa sn sc], .nilIface]) ∧ Below W.heap.size W W' ∧ (leB (C j).when_ (snapV v) = false → x = 0) ∧ (leB (C j).when_ (snapV v) = true → (∀ s, s < k → (v.Y j s).rt = 1) → x = 1) := by
  have n1 : 1 ≤ n := by omega
  have n6 : n ≤ 6 := by have := at0.n6; have := hI.vn; omega
  have k1 : 1 ≤ k := by have := at0.k1; have := hI.vk; omega
  obtain ⟨D, hK, hlen, hSt, hst, hD, hmem⟩ := hI.kept hC n1 n6
  obtain ⟨hT, _, _, hchk⟩ := hI.tx at0 hi hC (ks := [ky j]) (by simp) (by simp) (by simpa using hnm)
  have hl : (snapV v).length = n := by rw [snapV_len, hI.vn]
  have hb : leB v.st.base (snapV v) = true := by
    rw [hst]
    unfold leB
    rw [List.all_eq_true]
    intro t ht
    have e : (List.replicate n (0 : Int)).getD t 0 = 0 := by
      rw [List.getD_eq_getElem?_getD, List.getElem?_replicate]
      split <;> rfl
    rw [show (stOf n (D.map (partP C k))).base = List.replicate n 0 from rfl, e]
    have ht' : t < n := by simpa [stOf] using List.mem_range.1 ht
    exact decide_eq_true ((chk_zero.1 hchk).2.2 t (by omega)).1
  refine (read_any A W hE h12 h v at0 (ky j) hnm va vn vc (snapV v) hv hT.two hT.le (by rw [hI.vn]; exact hSt) hb (by rw [hst]; exact rowOf_few hK (by rw [List.length_map]; omega) _)).mono ?_
  rintro e W' ⟨vv, ds, he, hd, ⟨sv, hvv, sa, sc, hsv, _⟩, hbl⟩
  have hn := one_n hI hC n1 n6 k1 hops hky hJ hj hne hd
  rw [hsv] at hvv
  exact ⟨_, _, _, sa, _, sc, by rw [he, hvv], hbl, hn.1, hn.2⟩
end Go.Proofs.YtefpnojanldkeaaGreatDoor
namespace Go.Proofs.YtefpnojanldkeaaGreatDoor
open Go.ChangeShapes Go.WideShapes Go.ChangeAt Go.RowKit
set_option maxRecDepth 100000
set_option linter.unusedSectionVars false
variable [Inhabited ComV] [DecidableEq D3] [Inhabited D3] [Inhabited Dd] [Inhabited Dn] [Inhabited OpV]

theorem Tryz.laidOutP : laidOutB Tryz.prog = true := by kernel_rfl
theorem Tryz.cellsP3 : Tryz.prog.cellsOf 3 = 1 := by kernel_rfl
theorem Tryz.cellsP9 : Tryz.prog.cellsOf 9 = 1 := by kernel_rfl
theorem Tryz.readP22 : Tryz.prog.readableRec 22 = true := by kernel_rfl
theorem Tryz.ltP22 : 22 < Tryz.prog.types.size := of_decide_eq_true (by kernel_rfl)
theorem Tryz.readP23 : Tryz.prog.readableRec 23 = true := by kernel_rfl
theorem Tryz.ltP23 : 23 < Tryz.prog.types.size := of_decide_eq_true (by kernel_rfl)
/-- A slice of strings that came in. -/
def StrsIn (w : World) (v : Value) (ks : List ByteArray) : Prop := ∃ ad cap, v = .slice ad ks.length cap ∧ (ks = [] ∨ ∃ b off, ad = some ⟨b, off, none⟩ ∧ ∀ i, (hi : i < ks.length) → w.cell? ⟨b, off + i, none⟩ = some (.string ks[i]))
theorem strs_view {H : Type} {enc : TypeId × Value → H} {W : World} {base : Nat} {v : Value} {d : DataW H} {p : List MemPlace} (hv : Value.okWide Tryz.prog W .any base 22 v) (h : DataW.Trod enc Tryz.prog W 0 (fun _ => true) true 22 v d p) :
    ∃ ks, StrsIn W v ks := by
  obtain ⟨a0, len, cap, rfl⟩ := okWide_slice Tryz.underlying22 hv
  obtain ⟨fuel, hf⟩ := h
  rcases Go.Deep.open_strs Tryz.underlying22 Tryz.underlying9 Tryz.cellsP9 hf with ⟨hcs, hx⟩ | ⟨a, len', cap', m, Sx, hcs, _, hl, hm, hz, hx, hcell⟩
  · simp [Value.cells] at hcs
    obtain ⟨rfl, rfl, rfl⟩ := hcs
    exact ⟨[], none, 0, rfl, .inl rfl⟩
  · simp [Value.cells] at hcs
    obtain ⟨rfl, rfl, rfl⟩ := hcs
    simp only [if_true] at hz
    refine ⟨(List.range len).map Sx, some a, cap, by simp, ?_⟩
    by_cases h0 : len = 0
    · subst h0; exact .inl rfl
    · obtain ⟨b, off, spot⟩ := a
      have hspot : spot = none := by simpa [Addr.add] using World.cell?_spot (hcell 0 (by omega)).1
      subst hspot
      refine .inr ⟨b, off, rfl, fun i hi => ?_⟩
      have hi' : i < len := by simpa using hi
      have h1 := (hcell i (by omega)).1
      rw [Go.WideShapes.add_plain] at h1
      rw [h1]
      simp
theorem strs_stay {H : Type} {enc : TypeId × Value → H} {W W' : World} {v : Value} {d : DataW H} {p : List MemPlace} (h : DataW.Trod enc Tryz.prog W 0 (fun _ => true) true 22 v d p) (hb : Below W.heap.size W W') (hlt : ∀ x ∈ p, x.block < W.heap.size) :
    DataW.Trod enc Tryz.prog W' 0 (fun b => decide (b < W.heap.size)) true 22 v d p :=
  Below.trod Tryz.laidOutP Tryz.readP22 Tryz.ltP22 h hb hlt
/-- A slice of ints that came in. -/
theorem ints_view {H : Type} {enc : TypeId × Value → H} {W : World} {base : Nat} {v : Value} {d : DataW H} {p : List MemPlace} (hv : Value.okWide Tryz.prog W .any base 23 v) (h : DataW.Trod enc Tryz.prog W 0 (fun _ => true) true 23 v d p) :
    ∃ zs, IntsAt W v zs := by
  obtain ⟨a0, len, cap, rfl⟩ := okWide_slice Tryz.underlying23 hv
  obtain ⟨fuel, hf⟩ := h
  rcases open_ints Tryz.underlying23 Tryz.underlying3 Tryz.cellsP3 hf with ⟨hcs, hx⟩ | ⟨a, len', cap', zs, hcs, _, hl, hm, hz, hx, hcell, hwz⟩
  · simp [Value.cells] at hcs
    obtain ⟨rfl, rfl, rfl⟩ := hcs
    exact ⟨[], none, 0, rfl, (fun _ => rfl), .inl rfl⟩
  · simp [Value.cells] at hcs
    obtain ⟨rfl, rfl, rfl⟩ := hcs
    simp only [if_true] at hz
    have hlen : (zs.take len).length = len := by rw [List.length_take]; omega
    refine ⟨zs.take len, some a, cap, by rw [hlen], (fun h => by cases h), ?_⟩
    by_cases h0 : len = 0
    · subst h0; exact .inl rfl
    · obtain ⟨b, off, rfl, hc⟩ := ints_at hcell (by omega)
      refine .inr ⟨b, off, rfl, fun t ht => ?_⟩
      rw [hlen] at ht
      rw [hc t (by omega)]
      simp [List.getD_eq_getElem?_getD, ht]
theorem ints_stay {H : Type} {enc : TypeId × Value → H} {W W' : World} {v : Value} {d : DataW H} {p : List MemPlace} (h : DataW.Trod enc Tryz.prog W 0 (fun _ => true) true 23 v d p) (hb : Below W.heap.size W W') (hlt : ∀ x ∈ p, x.block < W.heap.size) :
    DataW.Trod enc Tryz.prog W' 0 (fun b => decide (b < W.heap.size)) true 23 v d p :=
  Below.trod Tryz.laidOutP Tryz.readP23 Tryz.ltP23 h hb hlt
end Go.Proofs.YtefpnojanldkeaaGreatDoor
