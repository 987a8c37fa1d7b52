/- PlaceCause: three places side by side; PlaceCause: what place 1 and place 2 hear; what is read there. -/
import Derived.Test.YtefpnojanldkeaaGreatDoorJNA
namespace Go.Proofs.YtefpnojanldkeaaGreatDoor
open Go.RowKit Go.Maps
set_option maxRecDepth 10000
set_option linter.unusedSectionVars false
variable [Inhabited ComV] [DecidableEq D3] [Inhabited D3] [Inhabited Dd] [Inhabited Dn] [Inhabited OpV]

structure TrI (w : World) (hp : PlH) (vp : PlV) (hq : PlH) (vq : PlV) (hz : PlH) (vz : PlV) (lv : Value) (rs : List Raw) (ms : List MsgV) (W : World) : Prop where
  bel : Below w.heap.size w W
  p : PlAt W hp vp
  q : PlAt W hq vq
  z : PlAt W hz vz
  lp : ∀ b, hp.foot vp b → w.heap.size ≤ b
  lq : ∀ b, hq.foot vq b → w.heap.size ≤ b
  lz : ∀ b, hz.foot vz b → w.heap.size ≤ b
  pq : ∀ b, hp.foot vp b → ¬ hq.foot vq b
  pz : ∀ b, hp.foot vp b → ¬ hz.foot vz b
  qz : ∀ b, hq.foot vq b → ¬ hz.foot vz b
  row : W.ownsRow w.heap.size 44 9 lv rs.length (raws rs)
  op : ∀ b, lv.ownBlock = some b → ¬ hp.foot vp b
  oq : ∀ b, lv.ownBlock = some b → ¬ hq.foot vq b
  oz : ∀ b, lv.ownBlock = some b → ¬ hz.foot vz b
  own : F2 (RawOwn 0 W) rs ms
variable {w W W' : World} {hp hq hz : PlH} {vp vq vz : PlV} {lv : Value} {rs : List Raw} {ms : List MsgV}
theorem TrI.below (I : TrI w hp vp hq vq hz vz lv rs ms W) (hb : Below W.heap.size W W') : TrI w hp vp hq vq hz vz lv rs ms W' :=
  ⟨I.bel.trans (hb.mono I.bel.size), I.p.below hb, I.q.below hb, I.z.below hb, I.lp, I.lq, I.lz, I.pq, I.pz, I.qz, own_keep I.row fun q hq => hb.block q (I.row.lt q hq).2, I.op, I.oq, I.oz, f2_mono (fun _ _ q => q.kept (Keeps.bel hb)) I.own⟩
theorem TrI.moveP {hp' : PlH} {vp' : PlV} (I : TrI w hp vp hq vq hz vz lv rs ms W) (hP : PlAt W' hp' vp') (hM : PlMoves W W' hp vp hp' vp') : TrI w hp' vp' hq vq hz vz lv rs ms W' := by
  have r := off_moves I.row I.op hM
  have q := I.q.other hM I.pq
  have z := I.z.other hM I.pz
  exact ⟨below_moves I.bel I.lp hM, hP, q.1, z.1, low_moves I.lp hM I.bel.size, I.lq, I.lz, q.2, z.2, I.qz, r.1, r.2, I.oq, I.oz, f2_mono (fun _ _ q => q.kept hM.keeps) I.own⟩
theorem TrI.moveQ {hq' : PlH} {vq' : PlV} (I : TrI w hp vp hq vq hz vz lv rs ms W) (hP : PlAt W' hq' vq') (hM : PlMoves W W' hq vq hq' vq') : TrI w hp vp hq' vq' hz vz lv rs ms W' := by
  have r := off_moves I.row I.oq hM
  have p := I.p.other hM fun b h1 h2 => I.pq b h2 h1
  have z := I.z.other hM I.qz
  exact ⟨below_moves I.bel I.lq hM, p.1, hP, z.1, I.lp, low_moves I.lq hM I.bel.size, I.lz, fun b h1 h2 => p.2 b h2 h1, I.pz, z.2, r.1, I.op, r.2, I.oz, f2_mono (fun _ _ q => q.kept hM.keeps) I.own⟩
theorem TrI.moveZ {hz' : PlH} {vz' : PlV} (I : TrI w hp vp hq vq hz vz lv rs ms W) (hP : PlAt W' hz' vz') (hM : PlMoves W W' hz vz hz' vz') : TrI w hp vp hq vq hz' vz' lv rs ms W' := by
  have r := off_moves I.row I.oz hM
  have p := I.p.other hM fun b h1 h2 => I.pz b h2 h1
  have q := I.q.other hM fun b h1 h2 => I.qz b h2 h1
  exact ⟨below_moves I.bel I.lz hM, p.1, q.1, hP, I.lp, I.lq, low_moves I.lz hM I.bel.size, I.pq, fun b h1 h2 => p.2 b h2 h1, fun b h1 h2 => q.2 b h2 h1, r.1, I.op, I.oq, r.2, f2_mono (fun _ _ q => q.kept hM.keeps) I.own⟩
theorem TrI.swap (I : TrI w hp vp hq vq hz vz lv rs ms W) {B : Nat} (hB : w.heap.size ≤ B) {rv : Value} {r2 : List Raw} {m2 : List MsgV} (hrow : W.ownsRow B 44 9 rv r2.length (raws r2)) (op : ∀ b, rv.ownBlock = some b → ¬ hp.foot vp b) (oq : ∀ b, rv.ownBlock = some b → ¬ hq.foot vq b) (oz : ∀ b, rv.ownBlock = some b → ¬ hz.foot vz b) (hF : F2 (RawOwn 0 W) r2 m2) : TrI w hp vp hq vq hz vz rv r2 m2 W :=
  ⟨I.bel, I.p, I.q, I.z, I.lp, I.lq, I.lz, I.pq, I.pz, I.qz, owns_base hrow hB, op, oq, oz, hF⟩
theorem TrI.app (I : TrI w hp vp hq vq hz vz lv rs ms W) {v3 : Value} {r2 : List Raw} {m2 : List MsgV} (h2 : F2 (RawOwn 0 W) r2 m2) (hg : W.grownBy W' lv.ownBlock) (hown : W'.ownsRow w.heap.size 44 9 v3 (rs ++ r2).length (raws (rs ++ r2))) (hv : v3.ownBlock = lv.ownBlock ∨ v3.ownBlock = some W.heap.size) : TrI w hp vp hq vq hz vz v3 (rs ++ r2) (ms ++ m2) W' := by
  have hk := keeps_grown hg fun q hq => own_type I.row hq
  have hsz := I.bel.size
  have off : ∀ {h : PlH} {v : PlV}, PlAt W h v → (∀ b, lv.ownBlock = some b → ¬ h.foot v b) → ∀ b, v3.ownBlock = some b → ¬ h.foot v b := fun {h v} a o b hb e => by
    rcases hv with h' | h'
    · exact o b (h' ▸ hb) e
    · have := a.lt e
      rw [h'] at hb
      have := Option.some.inj hb
      omega
  have kp : ∀ {h : PlH} {v : PlV}, PlAt W h v → (∀ b, lv.ownBlock = some b → ¬ h.foot v b) → PlAt W' h v := fun {h v} a o => a.keep (fun b hb => hg.block b (a.lt hb) fun e => o b e.symm hb) hk
  exact ⟨⟨hg.os.trans I.bel.os, hg.tape.trans I.bel.tape, hg.output.trans I.bel.output, Nat.le_trans I.bel.size hg.size, fun q hq => (hg.block q (by omega) fun e => by have := (I.row.lt q e.symm).1; omega).trans (I.bel.block q hq)⟩, kp I.p I.op, kp I.q I.oq, kp I.z I.oz, I.lp, I.lq, I.lz, I.pq, I.pz, I.qz, hown, off I.p I.op, off I.q I.oq, off I.z I.oz, f2_append' (f2_mono (fun _ _ q => q.kept hk) I.own) (f2_mono (fun _ _ q => q.kept hk) h2)⟩
def CC (a b : ByteArray) (j : Nat) : ComV := if j = 0 then comN [0, 0, 0] 0 1 (cOps [a]) else comN [1, 0, 0] 1 1 (cOps [b])
def kyC (a b : ByteArray) (j : Nat) : ByteArray := if j = 0 then a else b
theorem SrcOk.of {n j : Nat} {C C' : Nat → ComV} (h : SrcOk n C j) (e : C' j = C j) : SrcOk n C' j := by
  obtain ⟨h1, h2, h3, h4, h5, h6, h7⟩ := h
  exact ⟨e ▸ h1, e ▸ h2, e ▸ h3, e ▸ h4, e ▸ h5, e ▸ h6, e ▸ h7⟩
theorem cc_src {a b : ByteArray} (ha : nameB a = true) (hb : nameB b = true) (j : Nat) (hj : j < 2) : SrcOk 3 (CC a b) j := by
  have d3 : ∀ (x : Int) (j : Nat), (x = 0 ∨ x = 1) → j < 3 → ([x, 0, 0] : List Int).getD j 0 = 0 ∨ ([x, 0, 0] : List Int).getD j 0 = 1 := fun x j hx hj => by
    rcases (by omega : j = 0 ∨ j = 1 ∨ j = 2) with rfl | rfl | rfl
    · exact hx
    · exact .inl rfl
    · exact .inl rfl
  rcases (by omega : j = 0 ∨ j = 1) with rfl | rfl
  · exact (cCom_ok (at_ := [0, 0, 0]) (id := 0) (n := 3) (ks := [a]) rfl (by decide) (by decide) (fun j hj => d3 0 j (.inl rfl) hj) (by simp) (by simp) (by simpa using ha)).of rfl
  · exact (cCom_ok (at_ := [1, 0, 0]) (id := 1) (n := 3) (ks := [b]) rfl (by decide) (by decide) (fun j hj => d3 1 j (.inr rfl) hj) (by simp) (by simp) (by simpa using hb)).of rfl
theorem cc_ops (a b : ByteArray) (j : Nat) (hj : j < 2) : (CC a b j).ops = opsIdx (cOps [kyC a b j]) := by
  rcases (by omega : j = 0 ∨ j = 1) with rfl | rfl <;> rfl
theorem cc_ky {a b : ByteArray} (hne : a ≠ b) (j j' : Nat) (hj : j < 2) (hj' : j' < 2) (e : kyC a b j = kyC a b j') : j = j' := by
  rcases (by omega : j = 0 ∨ j = 1) with rfl | rfl <;> rcases (by omega : j' = 0 ∨ j' = 1) with rfl | rfl
  · rfl
  · exact absurd e hne
  · exact absurd e.symm hne
  · rfl
def CMsg (a b : ByteArray) (k : Nat) (m : MsgV) : Prop := ∃ f t s, f < 2 ∧ t < 3 ∧ t ≠ f ∧ s < k ∧ ((qS (CC a b f) k s = 1 ∧ m = cmM f t (CC a b f) k s) ∨ m = bmM f t (CC a b f) k s)
theorem CMsg.to_ {a b : ByteArray} {k : Nat} {m : MsgV} (h : CMsg a b k m) : 0 ≤ m.to_ ∧ m.to_ ≤ 2 := by
  obtain ⟨f, t, s, hf, ht, _, _, h⟩ := h
  rcases h with ⟨_, rfl⟩ | rfl
  · show (0 : Int) ≤ (t : Nat) ∧ ((t : Nat) : Int) ≤ 2; omega
  · show (0 : Int) ≤ (t : Nat) ∧ ((t : Nat) : Int) ≤ 2; omega

theorem cm_mem {f n k : Nat} {v : PlV} {c : ComV} (hid_ : v.id = f) (hn : v.n = n) (hk : v.k = k) (hs : ∀ j s, v.line j s → (v.Y j s).sq = 0) (ht : timeC c = 1) {x : MsgV} : x ∈ allMs (sendT (comV1 v c) c) v.id v.k v.n ↔ ∃ t s, t < n ∧ t ≠ f ∧ s < k ∧ qS c k s = 1 ∧ x = cmM f t c k s := by
  rw [sent_mem hs ht, hid_, hk]
  constructor
  · rintro ⟨j, s, q, h1, h2⟩
    exact ⟨j, s, by have := q.1; omega, by have := q.2.1; omega, by have := q.2.2; omega, h1, h2⟩
  · rintro ⟨j, s, h1, h2, h3, h4, h5⟩
    exact ⟨j, s, ⟨by omega, by omega, by omega⟩, h4, h5⟩
theorem bm_mem {f n k : Nat} {v : PlV} {c : ComV} (hid_ : v.id = f) (hn : v.n = n) (hk : v.k = k) (hs : ∀ j s, v.line j s → (v.Y j s).sq = 0) (hck : v.ck = 0) {x : MsgV} : x ∈ allMs (beatT (pv2 v c)) (pv2 v c).id (pv2 v c).k (pv2 v c).n ↔ ∃ t s, t < n ∧ t ≠ f ∧ s < k ∧ x = bmM f t c k s := by
  rw [beat_mem hs hck, hid_, hk]
  constructor
  · rintro ⟨j, s, q, h1⟩
    exact ⟨j, s, by have := q.1; omega, by have := q.2.1; omega, by have := q.2.2; omega, h1⟩
  · rintro ⟨j, s, h1, h2, h3, h4⟩
    exact ⟨j, s, ⟨by omega, by omega, by omega⟩, h4⟩
structure QI (w : World) (a b : ByteArray) (k : Nat) (hp : PlH) (vp : PlV) (hq : PlH) (vq : PlV) (hz : PlH) (vz : PlV) (lv : Value) (rs : List Raw) (ms : List MsgV) (i : Nat) (W : World) : Prop where
  tr : TrI w hp vp hq vq hz vz lv rs ms W
  rc : RcI 3 1 k (CC a b) (· = 0) i hq vq
  heard : ∀ idx m, idx < i → ms[idx]? = some m → m.to_ = 1 → (m.beat = false ∨ qS (CC a b 0) k m.shard.toNat = 0) → (vq.Y 0 m.shard.toNat).rt = 1
def PMsg (a b : ByteArray) (k : Nat) (m : MsgV) : Prop := ∃ t s, t < 3 ∧ t ≠ 0 ∧ s < k ∧ ((qS (CC a b 0) k s = 1 ∧ m = cmM 0 t (CC a b 0) k s) ∨ m = bmM 0 t (CC a b 0) k s)
theorem PMsg.c {a b : ByteArray} {k : Nat} {m : MsgV} (h : PMsg a b k m) : CMsg a b k m := by
  obtain ⟨t, s, h1, h2, h3, h4⟩ := h
  exact ⟨0, t, s, by decide, h1, h2, h3, h4⟩
variable {w W W' : World} {a b : ByteArray} {k : Nat} {hp hq hz : PlH} {vp vq vz : PlV} {lv : Value} {rs : List Raw} {ms : List MsgV} {i : Nat}
theorem f2_idx {α β : Type} {R : α → β → Prop} : ∀ {l : List α} {m : List β}, F2 R l m → ∀ (i : Nat) (x : α), l[i]? = some x → ∃ y, m[i]? = some y ∧ R x y
  | [], [], _, i, x, hx => by simp at hx
  | a :: l, b :: m, ⟨h1, h2⟩, 0, x, hx => by
    simp at hx
    subst hx
    exact ⟨b, by simp, h1⟩
  | a :: l, b :: m, ⟨h1, h2⟩, i + 1, x, hx => by
    simp at hx
    obtain ⟨y, hy, hr⟩ := f2_idx h2 i x hx
    exact ⟨y, by simpa using hy, hr⟩
theorem QI.skip (I : QI w a b k hp vp hq vq hz vz lv rs ms i W) {m : MsgV} (hm : ms[i]? = some m) (ht : m.to_ ≠ 1) : QI w a b k hp vp hq vq hz vz lv rs ms (i + 1) W := by
  refine ⟨I.tr, I.rc.step (Nat.le_refl _) fun _ _ => Nat.le_succ _, fun idx m' hi hm' ht' hb => ?_⟩
  by_cases e : idx = i
  · subst e
    rw [hm] at hm'
    obtain rfl := Option.some.inj hm'
    exact absurd ht' ht
  · exact I.heard idx m' (by omega) hm' ht' hb
theorem QI.hear (A : Nat → Addr) (I : QI w a b k hp vp hq vq hz vz lv rs ms i W) (hE : E4 A W) (h12 : 12 ≤ w.heap.size) (hi : i < 70) (hC : ∀ j, j = 0 → SrcOk 3 (CC a b) j) (hP : ∀ m ∈ ms, PMsg a b k m) {r : Raw} {m : MsgV} (hr : rs[i]? = some r) (hm : ms[i]? = some m) (ht : m.to_ = 1) :
    Calls Tryz.prog 11 #[.pointer (some ⟨hq.pb, 0, none⟩), .agg r.cells.toArray] W fun e W' => ∃ (hq' : PlH) (vq' : PlV) (a6 : Option Addr) (c6 : Nat), e = .returned (.tuple #[.slice a6 1 c6, .nilIface]) ∧ hq'.pb = hq.pb ∧ QI w a b k hp vp hq' vq' hz vz lv rs ms (i + 1) W' := by
  obtain ⟨m', hm', hown⟩ := f2_idx I.tr.own i r hr
  rw [hm] at hm'
  obtain rfl := Option.some.inj hm'
  obtain ⟨t, s, h1, h2, h3, h4⟩ := hP m (List.mem_of_getElem? hm)
  have et : t = 1 := by
    rcases h4 with ⟨_, rfl⟩ | rfl
    · have e : ((t : Nat) : Int) = 1 := ht
      omega
    · have e : ((t : Nat) : Int) = 1 := ht
      omega
  subst et
  have es : m.shard.toNat = s := by
    rcases h4 with ⟨_, rfl⟩ | rfl
    · exact Int.toNat_natCast s
    · exact Int.toNat_natCast s
  have hsz := I.tr.bel.size
  refine (hear_step A W hE (by omega) hq vq I.tr.q (fun b hb => by have := I.tr.lq b hb; omega) I.rc hi hC 0 s ⟨by rw [I.rc.vn]; decide, by rw [I.rc.vid]; decide, by rw [I.rc.vk]; exact h3⟩ rfl r m hown h4).mono ?_
  rintro e W' ⟨h', v', a6, c6, he, hP', hM, hpb, hR, hmo, hrt⟩
  refine ⟨h', v', a6, c6, he, hpb, I.tr.moveQ hP' hM, hR, fun idx m' hidx hm' ht' hb => ?_⟩
  by_cases e : idx = i
  · subst e
    rw [hm] at hm'
    obtain rfl := Option.some.inj hm'
    rw [es] at hb ⊢
    exact hrt hb
  · exact hmo _ _ (I.heard idx m' (by omega) hm' ht' hb)
theorem QI.done (I : QI w a b k hp vp hq vq hz vz lv rs ms i W) (hi : i = ms.length) (hc : ∀ s, s < k → qS (CC a b 0) k s = 1 → cmM 0 1 (CC a b 0) k s ∈ ms) (hb : ∀ s, s < k → bmM 0 1 (CC a b 0) k s ∈ ms) : (∀ s, s < k → (vq.Y 0 s).rt = 1) ∧ snapV vq = [1, 0, 0] := by
  have hall : ∀ s, s < k → (vq.Y 0 s).rt = 1 := fun s hs => by
    by_cases hq1 : qS (CC a b 0) k s = 1
    · obtain ⟨idx, hidx, e⟩ := List.mem_iff_getElem.1 (hc s hs hq1)
      have := I.heard idx _ (by omega) ((List.getElem?_eq_getElem hidx).trans (congrArg some e)) rfl (.inl rfl)
      rwa [show (cmM 0 1 (CC a b 0) k s).shard.toNat = s from Int.toNat_natCast s] at this
    · have hq0 : qS (CC a b 0) k s = 0 := by have := qS_le (CC a b 0) k s; omega
      obtain ⟨idx, hidx, e⟩ := List.mem_iff_getElem.1 (hb s hs)
      have es : (bmM 0 1 (CC a b 0) k s).shard.toNat = s := Int.toNat_natCast s
      have := I.heard idx _ (by omega) ((List.getElem?_eq_getElem hidx).trans (congrArg some e)) rfl (.inr (by rw [es]; exact hq0))
      rwa [es] at this
  refine ⟨hall, ?_⟩
  have k1 : 1 ≤ k := by have := I.tr.q.k1; have := I.rc.vk; omega
  have e0 : snapJ vq 0 = 1 := by
    unfold snapJ
    rw [if_neg (by rw [I.rc.vid]; decide), I.rc.vk]
    exact least_all k1 hall
  have e1 : snapJ vq 1 = 0 := by
    unfold snapJ
    rw [if_pos I.rc.vid.symm, I.rc.ck]
  have e2 : snapJ vq 2 = 0 := by
    rcases I.rc.snap k1 2 (by decide) (by decide) with e | ⟨_, e, _⟩
    · exact e
    · exact absurd e (by decide)
  unfold snapV
  rw [I.rc.vn]
  show [snapJ vq 0, snapJ vq 1, snapJ vq 2] = _
  rw [e0, e1, e2]
structure ZI (w : World) (a b : ByteArray) (k : Nat) (hp : PlH) (vp : PlV) (hq : PlH) (vq : PlV) (hz : PlH) (vz : PlV) (lv : Value) (rs : List Raw) (ms : List MsgV) (i : Nat) (W : World) : Prop where
  tr : TrI w hp vp hq vq hz vz lv rs ms W
  rc : RcI 3 2 k (CC a b) (· < 2) i hz vz
theorem ZI.step (I : ZI w a b k hp vp hq vq hz vz lv rs ms i W) : ZI w a b k hp vp hq vq hz vz lv rs ms (i + 1) W := ⟨I.tr, I.rc.step (Nat.le_refl _) fun _ _ => Nat.le_succ _⟩
theorem ZI.hear (A : Nat → Addr) (I : ZI w a b k hp vp hq vq hz vz lv rs ms i W) (hE : E4 A W) (h12 : 12 ≤ w.heap.size) (hi : i < 70) (hC : ∀ j, j < 2 → SrcOk 3 (CC a b) j) (hP : ∀ m ∈ ms, CMsg a b k m) {p : Nat} {r : Raw} {m : MsgV} (hr : rs[p]? = some r) (hm : ms[p]? = some m) (ht : m.to_ = 2) :
    Calls Tryz.prog 11 #[.pointer (some ⟨hz.pb, 0, none⟩), .agg r.cells.toArray] W fun e W' => ∃ (hz' : PlH) (vz' : PlV) (a6 : Option Addr) (c6 : Nat), e = .returned (.tuple #[.slice a6 1 c6, .nilIface]) ∧ hz'.pb = hz.pb ∧ ZI w a b k hp vp hq vq hz' vz' lv rs ms (i + 1) W' := by
  obtain ⟨m', hm', hown⟩ := f2_idx I.tr.own p r hr
  rw [hm] at hm'
  obtain rfl := Option.some.inj hm'
  obtain ⟨f, t, s, hf, h1, h2, h3, h4⟩ := hP m (List.mem_of_getElem? hm)
  have et : t = 2 := by
    rcases h4 with ⟨_, rfl⟩ | rfl
    · have e : ((t : Nat) : Int) = 2 := ht
      omega
    · have e : ((t : Nat) : Int) = 2 := ht
      omega
  subst et
  have hsz := I.tr.bel.size
  refine (hear_step A W hE (by omega) hz vz I.tr.z (fun b hb => by have := I.tr.lz b hb; omega) I.rc hi hC f s ⟨by rw [I.rc.vn]; omega, by rw [I.rc.vid]; omega, by rw [I.rc.vk]; exact h3⟩ hf r m hown h4).mono ?_
  rintro e W' ⟨h', v', a6, c6, he, hP', hM, hpb, hR, _, _⟩
  exact ⟨h', v', a6, c6, he, hpb, I.tr.moveZ hP' hM, hR⟩
theorem read_one (A : Nat → Addr) {n id : Nat} {C : Nat → ComV} {J : Nat → Prop} {h : PlH} {v : PlV} (hE : E4 A W) (h12 : 12 ≤ W.heap.size) (at0 : PlAt W h v) (hI : RcI n id k C J i h v) (hi : i ≤ 70) (hC : ∀ j, J j → SrcOk n C j) {ky : Nat → ByteArray} (hops : ∀ j, J j → (C j).ops = opsIdx (cOps [ky j])) (hky : ∀ j j', J j → J j' → ky j = ky j' → j = j') {j : Nat} (hJ : J j) (hj : j < n) (hne : j ≠ id) (hnm : nameB (ky j) = true) (va : Option Addr) (vn vc : Nat) (hv : IntsAt W (.slice va vn vc) (snapV v)) :
    Calls Tryz.prog 13 #[.pointer (some ⟨h.pb, 0, none⟩), .string (ky j), .slice va vn vc] W fun e W' => ∃ (kd : Int) (t : ByteArray) (x : Int) (sa : Option Addr) (sn sc : Nat), e = .returned (.tuple #[.agg #[.int .i64 kd, .string t, .int .i64 x, .slice sa sn sc], .nilIface]) ∧ Below W.heap.size W W' ∧ (leB (C j).when_ (snapV v) = false → x = 0) ∧ (leB (C j).when_ (snapV v) = true → (∀ s, s < k → (v.Y j s).rt = 1) → x = 1) := by
  have n1 : 1 ≤ n := by omega
  have n6 : n ≤ 6 := by have := at0.n6; have := hI.vn; omega
  have k1 : 1 ≤ k := by have := at0.k1; have := hI.vk; omega
  obtain ⟨D, hK, hlen, hSt, hst, hD, hmem⟩ := hI.kept hC n1 n6
  obtain ⟨hT, _, _, hchk⟩ := hI.tx at0 hi hC (ks := [ky j]) (by simp) (by simp) (by simpa using hnm)
  have hl : (snapV v).length = n := by rw [snapV_len, hI.vn]
  have hb : leB v.st.base (snapV v) = true := by
    rw [hst]
    unfold leB
    rw [List.all_eq_true]
    intro t ht
    have e : (List.replicate n (0 : Int)).getD t 0 = 0 := by
      rw [List.getD_eq_getElem?_getD, List.getElem?_replicate]
      split <;> rfl
    rw [show (stOf n (D.map (partP C k))).base = List.replicate n 0 from rfl, e]
    have ht' : t < n := by simpa [stOf] using List.mem_range.1 ht
    exact decide_eq_true ((chk_zero.1 hchk).2.2 t (by omega)).1
  refine (read_any A W hE h12 h v at0 (ky j) hnm va vn vc (snapV v) hv hT.two hT.le (by rw [hI.vn]; exact hSt) hb (by rw [hst]; exact rowOf_few hK (by rw [List.length_map]; omega) _)).mono ?_
  rintro e W' ⟨vv, ds, he, hd, ⟨sv, hvv, sa, sc, hsv, _⟩, hbl⟩
  have hn := one_n hI hC n1 n6 k1 hops hky hJ hj hne hd
  rw [hsv] at hvv
  exact ⟨_, _, _, sa, _, sc, by rw [he, hvv], hbl, hn.1, hn.2⟩
end Go.Proofs.YtefpnojanldkeaaGreatDoor
