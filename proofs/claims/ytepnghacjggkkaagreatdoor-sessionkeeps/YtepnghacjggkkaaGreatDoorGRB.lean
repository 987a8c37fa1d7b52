/- One commit of counters at a place, and one beat: what is sent; SessionSees: places among which all that is sent comes at once, in its order; SessionSees: a place commits or beats: what is under way then. -/
import Derived.Test.YtepnghacjggkkaaGreatDoorGLU
import Derived.Test.YtepnghacjggkkaaGreatDoorGWMath2
import Derived.Handy
import Derived.LaidEql
import Derived.LaidHandle
import Derived.LaidLaws
import Derived.LaidSub
import Derived.OpenShut
import Derived.ProofKit
import Derived.RowKitTokens
import Derived.Stop.Asserts
import Derived.Test.YtepnghacjggkkaaGreatDoorProg
import Derived.Test.YtepnghacjggkkaaGreatDoorRows
import Derived.WalkKit
import Derived.Test.YtepnghacjggkkaaGreatDoorGLP
import Derived.Deep.Fields
import Derived.Deep.RegionHeld
import Derived.Deep.RegionHeldLaw
import Derived.Deep.RegionWith
import Derived.Deep.Slices
import Derived.Laws.AppendOwnNone
import Derived.Maps.AppendAt
import Derived.Maps.RangeWalk
import Derived.WalkLawsBesides
import Derived.WalkSpells
namespace Go.Proofs.YtepnghacjggkkaaGreatDoor
open Go.RowKit Go.Maps
set_option maxRecDepth 10000
set_option linter.unusedSectionVars false
variable [Inhabited ComV] [DecidableEq D3] [Inhabited D3] [Inhabited Dd] [Inhabited Dn] [Inhabited OpV]

def cOp (key : ByteArray) : OpV := ⟨0, key, 2, ByteArray.empty, 1, false, []⟩
def cOps (ks : List ByteArray) : List OpV := ks.map cOp
theorem cOps_mem {ks : List ByteArray} {o : OpV} (h : o ∈ opsIdx (cOps ks)) : o.key ∈ ks ∧ o.kind = 2 ∧ o.n = 1 ∧ o.text = ByteArray.empty ∧ o.rem = false ∧ o.dots = [] ∧ 0 ≤ o.at_ ∧ o.at_ < ks.length := by
  obtain ⟨i, hi, rfl⟩ := List.getElem_of_mem h
  have e := opsIdx_get (cOps ks) i
  rw [List.getElem?_eq_getElem hi] at e
  have hi' : i < ks.length := by rw [opsIdx_len] at hi; simpa [cOps] using hi
  rw [show (cOps ks)[i]? = some (cOp ks[i]) by simp [cOps, hi']] at e
  simp only [Option.map_some] at e
  injection e with e
  rw [e]
  exact ⟨List.getElem_mem _, rfl, rfl, rfl, rfl, rfl, by show (0 : Int) ≤ (i : Nat); omega, by show ((i : Nat) : Int) < (ks.length : Nat); omega⟩
theorem cOp_err {o : OpV} {n : Int} (h1 : 1 ≤ n) (h6 : n ≤ 6) (hk : nameB o.key = true) (h2 : o.kind = 2) (hn : o.n = 1) (ht : o.text = ByteArray.empty) (hr : o.rem = false) (hd : o.dots = []) (ha : 0 ≤ o.at_) (hb : o.at_ < 12) : opErr o n = 0 := by
  unfold opErr
  rw [if_neg (by omega), if_neg (by rw [hk]; decide), if_neg (by rw [h2]; decide), if_neg (by unfold foreignB; rw [h2, ht, hr, hd, hn]; decide), if_neg (by rw [ht, hn, hd]; decide), if_neg (by rw [hd]; simp)]
theorem set_len (at_ : List Int) (p : Nat) (t : Int) : (at_.set p t).length = at_.length := List.length_set
theorem getD_set {at_ : List Int} {p : Nat} (h : p < at_.length) (t : Int) (j : Nat) : (at_.set p t).getD j 0 = if j = p then t else at_.getD j 0 := by
  rw [List.getD_eq_getElem?_getD, List.getElem?_set, List.getD_eq_getElem?_getD]
  by_cases e : p = j
  · subst e
    rw [if_pos rfl, if_pos h, if_pos rfl]
    rfl
  · rw [if_neg e, if_neg (Ne.symm e)]
theorem mem_rowMs {tell : Nat → Nat → List MsgV} {j : Nat} {x : MsgV} : ∀ {k : Nat}, x ∈ rowMs tell j k ↔ ∃ s, s < k ∧ x ∈ tell j s
  | 0 => ⟨fun h => by simp [rowMs] at h, fun ⟨s, h, _⟩ => by omega⟩
  | k + 1 => by
    show x ∈ rowMs tell j k ++ tell j k ↔ _
    rw [List.mem_append, mem_rowMs]
    constructor
    · rintro (⟨s, h1, h2⟩ | h)
      · exact ⟨s, by omega, h2⟩
      · exact ⟨k, by omega, h⟩
    · rintro ⟨s, h1, h2⟩
      by_cases e : s = k
      · subst e; exact .inr h2
      · exact .inl ⟨s, by omega, h2⟩
theorem mem_allMs {tell : Nat → Nat → List MsgV} {id k : Nat} {x : MsgV} : ∀ {n : Nat}, x ∈ allMs tell id k n ↔ ∃ j s, j < n ∧ j ≠ id ∧ s < k ∧ x ∈ tell j s
  | 0 => ⟨fun h => by simp [allMs] at h, fun ⟨j, s, h, _⟩ => by omega⟩
  | n + 1 => by
    show (x ∈ allMs tell id k n ++ if n = id then [] else rowMs tell n k) ↔ _
    rw [List.mem_append, mem_allMs]
    constructor
    · rintro (⟨j, s, h1, h2, h3, h4⟩ | h)
      · exact ⟨j, s, by omega, h2, h3, h4⟩
      · by_cases e : n = id
        · rw [if_pos e] at h; simp at h
        · rw [if_neg e] at h
          obtain ⟨s, h3, h4⟩ := mem_rowMs.1 h
          exact ⟨n, s, by omega, e, h3, h4⟩
    · rintro ⟨j, s, h1, h2, h3, h4⟩
      by_cases e : j = n
      · subst e
        rw [if_neg h2]
        exact .inr (mem_rowMs.2 ⟨s, h3, h4⟩)
      · exact .inl ⟨j, s, by omega, h2, h3, h4⟩
def pv2 (v : PlV) (c : ComV) : PlV := { comV1 v c with Y := sendY (comV1 v c) c }
end Go.Proofs.YtepnghacjggkkaaGreatDoor
namespace Go.Proofs.YtepnghacjggkkaaGreatDoor
open Go.RowKit Go.Maps
set_option maxRecDepth 10000
set_option linter.unusedSectionVars false
variable [Inhabited ComV] [DecidableEq D3] [Inhabited D3] [Inhabited Dd] [Inhabited Dn] [Inhabited OpV]

def nKey : ByteArray := ⟨#[110]⟩
def nOps : List OpV := cOps [nKey]
structure SesC (n k : Nat) (c : ComV) : Prop where
  ok : ComOk c
  rise : Rising c.ops
  len : c.when_.length = n
  ops : c.ops = nOps
  old : leB c.when_ (List.replicate n 0) = false
  light : Light c
  small : SmallC c
theorem nCom_ok {at_ : List Int} {p n k : Nat} {t : Int} (hl : at_.length = n) (hp : p < n) (n6 : n ≤ 6) (ha : ∀ j, j < n → 0 ≤ at_.getD j 0 ∧ at_.getD j 0 ≤ 1000) (t1 : 1 ≤ t) (t2 : t ≤ 1000) : SesC n k (comN at_ p t nOps) := by
  have hks : ∀ key ∈ [nKey], nameB key = true := fun key h => by
    rw [List.mem_singleton] at h
    subst h
    decide
  have hlen : (opsIdx nOps).length = 1 := rfl
  have hchk : chk (at_.set p t) = 0 := chk_zero.2 ⟨by rw [set_len]; omega, by rw [set_len]; omega, fun x hx => by
    rw [set_len] at hx
    rw [getD_set (by omega)]
    split
    · omega
    · have := ha x (by omega)
      omega⟩
  refine ⟨⟨hchk, by show (0 : Int) ≤ (p : Nat); omega, by show ((p : Nat) : Int) < ((at_.set p t).length : Nat); rw [set_len]; omega, ?_, by show (opsIdx nOps).length ≤ 12; omega, by show opsIdx nOps ≠ []; exact List.cons_ne_nil _ _, fun i hi => ?_⟩, rising_idx _, by show (at_.set p t).length = n; rw [set_len, hl], rfl, ?_, ⟨by show (at_.set p t).length ≤ 20; rw [set_len]; omega, by show (opsIdx nOps).length ≤ 20; omega, fun o ho => ?_⟩, ⟨by show (at_.set p t).length ≤ 1000000; rw [set_len]; omega, by show (opsIdx nOps).length ≤ 1000000; omega, fun o ho => ?_⟩⟩
  · show (at_.set p t).getD ((p : Nat) : Int).toNat 0 ≠ 0
    rw [Int.toNat_natCast, getD_set (by omega), if_pos rfl]
    omega
  · have hi' : i < (opsIdx nOps).length := hi
    obtain rfl : i = 0 := by omega
    show opBad ((at_.set p t).length : Nat) (opsIdx nOps) 0 = 0
    obtain ⟨m1, m2, m3, m4, m5, m6, m7, m8⟩ := cOps_mem (ks := [nKey]) (List.getElem_mem hi')
    have e0 : opErr (opsIdx nOps)[0]! ((at_.set p t).length : Nat) = 0 := by
      rw [getElem!_pos _ 0 hi']
      exact cOp_err (by rw [set_len]; omega) (by rw [set_len]; omega) (hks _ m1) m2 m3 m4 m5 m6 m7 (by have : ([nKey] : List ByteArray).length = 1 := rfl; omega)
    unfold opBad
    rw [e0, if_neg (by simp), if_neg]
    rintro ⟨h0, _⟩
    omega
  · show leB (at_.set p t) (List.replicate n 0) = false
    unfold leB
    rw [List.all_eq_false]
    refine ⟨p, List.mem_range.2 (by rw [set_len]; omega), ?_⟩
    rw [getD_set (by omega), if_pos rfl]
    have : (List.replicate n (0 : Int)).getD p 0 = 0 := by
      rw [List.getD_eq_getElem?_getD, List.getElem?_replicate]
      split <;> rfl
    rw [this, decide_eq_true_eq]
    omega
  · obtain ⟨m1, m2, m3, m4, m5, m6, m7, m8⟩ := cOps_mem (ks := [nKey]) ho
    rw [List.mem_singleton] at m1
    rw [m4, m6, m1]
    exact ⟨by decide, by decide, by decide⟩
  · obtain ⟨m1, m2, m3, m4, m5, m6, m7, m8⟩ := cOps_mem (ks := [nKey]) ho
    show o.text.size ≤ 1000000 ∧ o.dots.length ≤ 1000000
    rw [m4, m6]
    decide
theorem nPart (k s : Nat) : partOps nOps k s = if shardN nKey k = s then nOps else [] := by
  show ([cOp nKey] : List OpV).filter (fun o => decide (shardN o.key k = s)) = if shardN nKey k = s then [cOp nKey] else []
  by_cases e : shardN nKey k = s
  · rw [if_pos e]
    exact List.filter_eq_self.2 fun o ho => by
      rw [List.mem_singleton] at ho
      rw [ho]
      exact decide_eq_true e
  · rw [if_neg e]
    exact List.filter_eq_nil_iff.2 fun o ho => by
      rw [List.mem_singleton] at ho
      rw [ho]
      exact fun h => e (of_decide_eq_true h)
theorem nPartV {n k : Nat} {c : ComV} (h : SesC n k c) : partV c k (shardN nKey k) = c := by
  have : partOps c.ops k (shardN nKey k) = c.ops := by rw [h.ops, nPart, if_pos rfl]
  unfold partV
  rw [this]
def OnL (m : MsgV) (i j s : Nat) : Prop := m.frm = i ∧ m.to_ = j ∧ m.shard = s
theorem OnL.inj {m : MsgV} {i j s i' j' s' : Nat} (h : OnL m i j s) (h' : OnL m i' j' s') : i = i' ∧ j = j' ∧ s = s' := by
  obtain ⟨a, b, c⟩ := h
  obtain ⟨d, e, f⟩ := h'
  omega
def OffL (a b : MsgV) : Prop := ¬ (a.frm = b.frm ∧ a.to_ = b.to_ ∧ a.shard = b.shard)
structure NetI (n k : Nat) (C : List ComV) (t : Nat) (U : List MsgV) (H : Nat → PlH) (V : Nat → PlV) : Prop where
  vid : ∀ i, i < n → (V i).id = i
  vn : ∀ i, i < n → (V i).n = n
  vk : ∀ i, i < n → (V i).k = k
  ck0 : ∀ i, i < n → 0 ≤ (V i).ck
  ck1 : ∀ i, i < n → (V i).ck ≤ C.length
  snd : ∀ i j s, i < n → j < n → i ≠ j → s < k → 0 ≤ ((V i).Y j s).sq ∧ ((V i).Y j s).sq ≤ t ∧ ((V i).Y j s).ms.length ≤ t ∧ 0 ≤ ((V i).Y j s).st ∧ ((V i).Y j s).st ≤ (V i).ck
  non : ∀ i j s q, i < n → j < n → i ≠ j → s < k → ((V j).Y i s).mm q = none
  here : ∀ i j s, i < n → j < n → i ≠ j → s < k → (∀ m ∈ U, ¬ OnL m i j s) → ((V j).Y i s).rq = ((V i).Y j s).sq ∧ ((V j).Y i s).rt = ((V i).Y j s).st
  fly : ∀ i j s m, i < n → j < n → i ≠ j → s < k → m ∈ U → OnL m i j s → ((V j).Y i s).rq + 1 = m.seq ∧ m.seq = ((V i).Y j s).sq ∧ m.time = ((V i).Y j s).st ∧ 0 ≤ ((V j).Y i s).rq ∧ 0 ≤ ((V j).Y i s).rt ∧ ((V j).Y i s).rt ≤ m.time
  one : U.Pairwise OffL
  msg : ∀ m ∈ U, ∃ i j s, i < n ∧ j < n ∧ i ≠ j ∧ s < k ∧ OnL m i j s ∧ ((m.beat = true ∧ Light m.c) ∨ (m.beat = false ∧ s = shardN nKey k ∧ m.c.place = i ∧ ∃ C', C = C' ++ [m.c]))
  st0 : ∀ j, j < n → (∀ m ∈ U, m.to_ = j → m.beat = true) → (V j).st = stOf n C
  st1 : ∀ j m, j < n → m ∈ U → m.to_ = j → m.beat = false → ∃ C', C = C' ++ [m.c] ∧ (V j).st = stOf n C'
  com : ∀ c ∈ C, SesC n k c
  kept : KeptL n C
  tim : ∀ c ∈ C, ∀ p : Nat, p < n → c.place = p → timeC c ≤ (V p).ck
  few : C.length ≤ t
  cnt : ∀ j, j < n → ∃ g : Nat, (H j).nn ≤ 24 * g ∧ (∀ i s, i < n → i ≠ j → s < k → ((H j).X i s).n ≤ g) ∧ g + (U.filter fun m : MsgV => decide (m.to_ = (j : Int))).length ≤ 7 * t
def updP {α : Type} (f : Nat → α) (i : Nat) (x : α) : Nat → α := fun j => if j = i then x else f j
theorem updP_at {α : Type} (f : Nat → α) (i : Nat) (x : α) : updP f i x i = x := if_pos rfl
theorem updP_ne {α : Type} (f : Nat → α) {i j : Nat} (x : α) (h : j ≠ i) : updP f i x j = f j := if_neg h
theorem kept_pre {n : Nat} {C : List ComV} {c : ComV} (h : KeptL n (C ++ [c])) : KeptL n C :=
  ⟨fun x hx => h.ok x (by simp [hx]), fun x hx => h.len x (by simp [hx]), fun x hx => h.old x (by simp [hx]), by
    have := h.dots
    rw [List.flatMap_append] at this
    exact (List.nodup_append.1 this).1⟩
def heardV (v : PlV) (i s : Nat) (m : MsgV) : PlV := { v with Y := updL v.Y i s (hearY (v.Y i s) m [m]), st := takeV v.st m }
theorem NetI.heard {n k t : Nat} {C : List ComV} {U : List MsgV} {H : Nat → PlH} {V : Nat → PlV} {m : MsgV} (hN : NetI n k C t (m :: U) H V) {i j s : Nat} (hi : i < n) (hj : j < n) (hij : i ≠ j) (hs : s < k) (hm : OnL m i j s) {h' : PlH} (hnn : h'.nn ≤ (H j).nn + 24) (hX : ∀ a b, (h'.X a b).n ≤ ((H j).X a b).n + 1) : NetI n k C t U (updP H j h') (updP V j (heardV (V j) i s m)) := by
  obtain ⟨f1, f2, f3, f4, f5, f6⟩ := hN.fly i j s m hi hj hij hs (by simp) hm
  have hone := List.pairwise_cons.1 hN.one
  have hY : ∀ b s', (heardV (V j) i s m).Y b s' = if b = i ∧ s' = s then hearY ((V j).Y i s) m [m] else (V j).Y b s' := fun b s' => rfl
  have hS : ∀ a b s', ((updP V j (heardV (V j) i s m) a).Y b s').sq = ((V a).Y b s').sq ∧ ((updP V j (heardV (V j) i s m) a).Y b s').st = ((V a).Y b s').st ∧ ((updP V j (heardV (V j) i s m) a).Y b s').ms = ((V a).Y b s').ms := fun a b s' => by
    by_cases e : a = j
    · subst e
      rw [updP_at, hY]
      split
      · rename_i e
        rw [e.1, e.2]
        exact ⟨rfl, rfl, rfl⟩
      · exact ⟨rfl, rfl, rfl⟩
    · rw [updP_ne _ _ e]
      exact ⟨rfl, rfl, rfl⟩
  have hR : ∀ a b s', ¬ (b = j ∧ a = i ∧ s' = s) → (updP V j (heardV (V j) i s m) b).Y a s' = (V b).Y a s' := fun a b s' hne => by
    by_cases e : b = j
    · subst e
      rw [updP_at, hY, if_neg (fun e => hne ⟨rfl, e.1, e.2⟩)]
    · rw [updP_ne _ _ e]
  have hR1 : (updP V j (heardV (V j) i s m) j).Y i s = hearY ((V j).Y i s) m [m] := by rw [updP_at, hY, if_pos ⟨rfl, rfl⟩]
  have hK : ∀ a, (updP V j (heardV (V j) i s m) a).id = (V a).id ∧ (updP V j (heardV (V j) i s m) a).n = (V a).n ∧ (updP V j (heardV (V j) i s m) a).k = (V a).k ∧ (updP V j (heardV (V j) i s m) a).ck = (V a).ck := fun a => by
    by_cases e : a = j
    · subst e; rw [updP_at]; exact ⟨rfl, rfl, rfl, rfl⟩
    · rw [updP_ne _ _ e]; exact ⟨rfl, rfl, rfl, rfl⟩
  have hSt : (updP V j (heardV (V j) i s m) j).st = takeV (V j).st m := by rw [updP_at]; rfl
  have hSt' : ∀ a, a ≠ j → (updP V j (heardV (V j) i s m) a).st = (V a).st := fun a e => by rw [updP_ne _ _ e]
  have off : ∀ x ∈ U, ¬ OnL x i j s := fun x hx e => hone.1 x hx ⟨by rw [hm.1, e.1], by rw [hm.2.1, e.2.1], by rw [hm.2.2, e.2.2]⟩
  refine ⟨fun a ha => by rw [(hK a).1]; exact hN.vid a ha, fun a ha => by rw [(hK a).2.1]; exact hN.vn a ha, fun a ha => by rw [(hK a).2.2.1]; exact hN.vk a ha, fun a ha => by rw [(hK a).2.2.2]; exact hN.ck0 a ha, fun a ha => by rw [(hK a).2.2.2]; exact hN.ck1 a ha, fun a b s' ha hb hab hs' => ?_, fun a b s' q ha hb hab hs' => ?_, fun a b s' ha hb hab hs' hno => ?_, fun a b s' x ha hb hab hs' hx hl => ?_, hone.2, fun x hx => hN.msg x (by simp [hx]), fun b hb hall => ?_, fun b x hb hx hto hbe => ?_, hN.com, hN.kept, fun c hc p hp e => by rw [(hK p).2.2.2]; exact hN.tim c hc p hp e, hN.few, fun b hb => ?_⟩
  · rw [(hS a b s').1, (hS a b s').2.1, (hS a b s').2.2, (hK a).2.2.2]
    exact hN.snd a b s' ha hb hab hs'
  · by_cases e : b = j ∧ a = i ∧ s' = s
    · obtain ⟨rfl, rfl, rfl⟩ := e
      rw [hR1]
      show (if ((V b).Y a s').rq < q ∧ q ≤ ((V b).Y a s').rq + ((1 : Nat) : Int) then none else updM ((V b).Y a s').mm m.seq (some m) q) = none
      split
      · rfl
      · unfold updM
        rw [if_neg (by omega)]
        exact hN.non a b s' q ha hb hab hs'
    · rw [hR a b s' e]
      exact hN.non a b s' q ha hb hab hs'
  · rw [(hS a b s').1, (hS a b s').2.1]
    by_cases e : b = j ∧ a = i ∧ s' = s
    · obtain ⟨rfl, rfl, rfl⟩ := e
      rw [hR1]
      show ((V b).Y a s').rq + ((1 : Nat) : Int) = _ ∧ m.time = _
      exact ⟨by omega, f3⟩
    · rw [hR a b s' e]
      refine hN.here a b s' ha hb hab hs' fun x hx hl => ?_
      rcases List.mem_cons.1 hx with rfl | hx
      · obtain ⟨e1, e2, e3⟩ := hl.inj hm
        exact e ⟨e2, e1, e3⟩
      · exact hno x hx hl
  · have e : ¬ (b = j ∧ a = i ∧ s' = s) := fun ⟨e1, e2, e3⟩ => by
      subst e1 e2 e3
      exact off x hx hl
    rw [(hS a b s').1, (hS a b s').2.1, hR a b s' e]
    exact hN.fly a b s' x ha hb hab hs' (by simp [hx]) hl
  · by_cases e : b = j
    · subst e
      rw [hSt]
      cases hbe : m.beat with
      | true =>
        unfold takeV
        rw [if_pos hbe]
        refine hN.st0 b hb fun x hx hto => ?_
        rcases List.mem_cons.1 hx with rfl | hx
        · exact hbe
        · exact hall x hx hto
      | false =>
        obtain ⟨C', e1, e2⟩ := hN.st1 b m hb (by simp) hm.2.1 hbe
        unfold takeV
        rw [if_neg (by rw [hbe]; decide), e2, e1, stOf_put]
    · rw [hSt' b e]
      refine hN.st0 b hb fun x hx hto => ?_
      rcases List.mem_cons.1 hx with rfl | hx
      · exact absurd (by have := hm.2.1; omega) e
      · exact hall x hx hto
  · by_cases e : b = j
    · subst e
      rw [hSt]
      cases hbm : m.beat with
      | true =>
        unfold takeV
        rw [if_pos hbm]
        exact hN.st1 b x hb (by simp [hx]) hto hbe
      | false =>
        exfalso
        obtain ⟨i1, j1, s1, _, _, _, _, l1, q1⟩ := hN.msg m (by simp)
        obtain ⟨i2, j2, s2, _, _, _, _, l2, q2⟩ := hN.msg x (by simp [hx])
        obtain ⟨_, g2, g3, C1, g4⟩ := q1.resolve_left (fun h => by rw [hbm] at h; exact absurd h.1 (by decide))
        obtain ⟨_, g6, g7, C2, g8⟩ := q2.resolve_left (fun h => by rw [hbe] at h; exact absurd h.1 (by decide))
        rw [g4] at g8
        have ec : m.c = x.c := by
          have := congrArg List.getLast? g8
          simpa using this
        obtain ⟨e1, e2, e3⟩ := l1.inj hm
        refine off x hx ⟨?_, hto, ?_⟩
        · rw [l2.1]
          have : (i2 : Int) = i1 := by rw [← g7, ← g3, ec]
          omega
        · rw [l2.2.2]
          omega
    · rw [hSt' b e]
      exact hN.st1 b x hb (by simp [hx]) hto hbe
  · obtain ⟨g, g1, g2, g3⟩ := hN.cnt b hb
    by_cases e : b = j
    · subst e
      rw [List.filter_cons, if_pos (decide_eq_true hm.2.1), List.length_cons] at g3
      refine ⟨g + 1, by rw [updP_at]; omega, fun a s' ha hab hs' => ?_, by omega⟩
      rw [updP_at]
      have := hX a s'
      have := g2 a s' ha hab hs'
      omega
    · have : ¬ (decide (m.to_ = (b : Int)) = true) := fun h => e (by have := of_decide_eq_true h; have := hm.2.1; omega)
      rw [List.filter_cons, if_neg this] at g3
      exact ⟨g, by rw [updP_ne _ _ e]; exact g1, fun a s' ha hab hs' => by rw [updP_ne _ _ e]; exact g2 a s' ha hab hs', g3⟩
end Go.Proofs.YtepnghacjggkkaaGreatDoor
namespace Go.Proofs.YtepnghacjggkkaaGreatDoor
open Go.RowKit Go.Maps
set_option maxRecDepth 10000
set_option linter.unusedSectionVars false
variable [Inhabited ComV] [DecidableEq D3] [Inhabited D3] [Inhabited Dd] [Inhabited Dn] [Inhabited OpV]

def TellsOne (tell : Nat → Nat → List MsgV) : Prop := ∀ j s, tell j s = [] ∨ ∃ x, tell j s = [x] ∧ x.to_ = j ∧ x.shard = s
theorem TellsOne.mem {tell : Nat → Nat → List MsgV} (h : TellsOne tell) {j s : Nat} {x : MsgV} (hx : x ∈ tell j s) : x.to_ = j ∧ x.shard = s := by
  rcases h j s with e | ⟨y, e, h1, h2⟩
  · rw [e] at hx; simp at hx
  · rw [e, List.mem_singleton] at hx
    rw [hx]
    exact ⟨h1, h2⟩
theorem row_pair {tell : Nat → Nat → List MsgV} (h : TellsOne tell) (j : Nat) : ∀ k, (rowMs tell j k).Pairwise OffL
  | 0 => List.Pairwise.nil
  | k + 1 => by
    refine List.pairwise_append.2 ⟨row_pair h j k, ?_, fun a ha b hb => ?_⟩
    · rcases h j k with e | ⟨y, e, _⟩ <;> rw [e] <;> simp
    · obtain ⟨s, hs, ha⟩ := mem_rowMs.1 ha
      have h1 := h.mem ha
      have h2 := h.mem hb
      rintro ⟨_, _, e⟩
      omega
theorem all_pair {tell : Nat → Nat → List MsgV} (h : TellsOne tell) (id k : Nat) : ∀ n, (allMs tell id k n).Pairwise OffL
  | 0 => List.Pairwise.nil
  | n + 1 => by
    refine List.pairwise_append.2 ⟨all_pair h id k n, ?_, fun a ha b hb => ?_⟩
    · split
      · exact List.Pairwise.nil
      · exact row_pair h n k
    · obtain ⟨j, s, hj, _, hs, ha⟩ := mem_allMs.1 ha
      split at hb
      · simp at hb
      · obtain ⟨s', _, hb⟩ := mem_rowMs.1 hb
        have h1 := h.mem ha
        have h2 := h.mem hb
        rintro ⟨_, e, _⟩
        omega
theorem row_len {tell : Nat → Nat → List MsgV} (h : TellsOne tell) (j : Nat) : ∀ k, (rowMs tell j k).length ≤ k
  | 0 => Nat.le_refl _
  | k + 1 => by
    show (rowMs tell j k ++ tell j k).length ≤ k + 1
    have := row_len h j k
    rw [List.length_append]
    rcases h j k with e | ⟨y, e, _⟩ <;> rw [e] <;> simp <;> omega
theorem all_to {tell : Nat → Nat → List MsgV} (h : TellsOne tell) (id k j : Nat) : ∀ n, ((allMs tell id k n).filter fun m : MsgV => decide (m.to_ = (j : Int))).length ≤ (if j < n then k else 0)
  | 0 => by simp [allMs]
  | n + 1 => by
    show ((allMs tell id k n ++ if n = id then [] else rowMs tell n k).filter fun m : MsgV => decide (m.to_ = (j : Int))).length ≤ _
    rw [List.filter_append, List.length_append]
    have h0 := all_to h id k j n
    by_cases e : j = n
    · subst e
      rw [if_neg (show ¬ j < j by omega)] at h0
      rw [if_pos (show j < j + 1 by omega)]
      have h1 : ((if j = id then [] else rowMs tell j k : List MsgV).filter fun m : MsgV => decide (m.to_ = (j : Int))).length ≤ k := by
        refine Nat.le_trans (List.length_filter_le _ _) ?_
        split
        · simp
        · exact row_len h j k
      omega
    · have h1 : (if n = id then [] else rowMs tell n k : List MsgV).filter (fun m : MsgV => decide (m.to_ = (j : Int))) = [] := List.filter_eq_nil_iff.2 fun x hx hd => by
        split at hx
        · simp at hx
        · obtain ⟨s, _, hx⟩ := mem_rowMs.1 hx
          have := (h.mem hx).1
          have := of_decide_eq_true hd
          omega
      rw [h1, List.length_nil]
      by_cases e' : j < n
      · rw [if_pos e'] at h0
        rw [if_pos (show j < n + 1 by omega)]
        omega
      · rw [if_neg e'] at h0
        omega
structure Sends (n k p : Nat) (C C2 : List ComV) (V : Nat → PlV) (v' : PlV) (S : Nat → Bool) (tm : Int) (tell : Nat → Nat → List MsgV) : Prop where
  id_ : v'.id = (V p).id
  n_ : v'.n = (V p).n
  k_ : v'.k = (V p).k
  ck : v'.ck = tm
  tell1 : TellsOne tell
  yes : ∀ j s, j < n → j ≠ p → s < k → S s = true → ∃ x, tell j s = [x] ∧ x.frm = p ∧ x.to_ = j ∧ x.shard = s ∧ x.seq = ((V p).Y j s).sq + 1 ∧ x.time = tm ∧ ((x.beat = true ∧ Light x.c ∧ C2 = C) ∨ (x.beat = false ∧ s = shardN nKey k ∧ x.c.place = p ∧ C2 = C ++ [x.c])) ∧ (v'.Y j s).sq = ((V p).Y j s).sq + 1 ∧ (v'.Y j s).st = tm ∧ (v'.Y j s).ms.length = ((V p).Y j s).ms.length + 1
  no : ∀ j s, j < n → j ≠ p → s < k → S s = false → tell j s = [] ∧ (v'.Y j s).sq = ((V p).Y j s).sq ∧ (v'.Y j s).st = ((V p).Y j s).st ∧ (v'.Y j s).ms = ((V p).Y j s).ms
  rcv : ∀ j s, (v'.Y j s).rq = ((V p).Y j s).rq ∧ (v'.Y j s).rt = ((V p).Y j s).rt ∧ (v'.Y j s).mm = ((V p).Y j s).mm
  what : (C2 = C ∧ v'.st = (V p).st ∧ tm = (V p).ck) ∨ (∃ c, C2 = C ++ [c] ∧ v'.st = stOf n C2 ∧ tm = (V p).ck + 1 ∧ S (shardN nKey k) = true ∧ SesC n k c ∧ c.place = p ∧ timeC c = tm ∧ KeptL n C2)
theorem NetI.sent {n k t p : Nat} {C C2 : List ComV} {H : Nat → PlH} {V : Nat → PlV} {v' : PlV} {S : Nat → Bool} {tm : Int} {tell : Nat → Nat → List MsgV} (hN : NetI n k C t [] H V) (hp : p < n) (k1 : 1 ≤ k) (k6 : k ≤ 6) (hT : Sends n k p C C2 V v' S tm tell) {h' : PlH} (hnn : h'.nn ≤ (H p).nn + 24) (hX : ∀ j s, j < n → j ≠ p → s < k → (h'.X j s).n ≤ ((H p).X j s).n + 1) : NetI n k C2 (t + 1) (allMs tell p k n) (updP H p h') (updP V p v') := by
  have hσ : shardN nKey k < k := Nat.mod_lt _ (by omega)
  have hmem : ∀ x, x ∈ allMs tell p k n → ∃ j s, j < n ∧ j ≠ p ∧ s < k ∧ S s = true ∧ tell j s = [x] ∧ x.frm = p ∧ x.to_ = j ∧ x.shard = s ∧ x.seq = ((V p).Y j s).sq + 1 ∧ x.time = tm ∧ ((x.beat = true ∧ Light x.c ∧ C2 = C) ∨ (x.beat = false ∧ s = shardN nKey k ∧ x.c.place = p ∧ C2 = C ++ [x.c])) := fun x hx => by
    obtain ⟨j, s, h1, h2, h3, h4⟩ := mem_allMs.1 hx
    cases hs : S s with
    | false => rw [(hT.no j s h1 h2 h3 hs).1] at h4; simp at h4
    | true =>
      obtain ⟨y, g1, g2, g3, g4, g5, g6, g7, _⟩ := hT.yes j s h1 h2 h3 hs
      rw [g1, List.mem_singleton] at h4
      subst h4
      exact ⟨j, s, h1, h2, h3, hs, g1, g2, g3, g4, g5, g6, g7⟩
  have hin : ∀ j s, j < n → j ≠ p → s < k → S s = true → ∃ x ∈ allMs tell p k n, OnL x p j s ∧ tell j s = [x] := fun j s h1 h2 h3 hs => by
    obtain ⟨y, g1, g2, g3, g4, _⟩ := hT.yes j s h1 h2 h3 hs
    exact ⟨y, mem_allMs.2 ⟨j, s, h1, h2, h3, by rw [g1]; simp⟩, ⟨g2, g3, g4⟩, g1⟩
  have ckm : (V p).ck ≤ tm := by rcases hT.what with ⟨_, _, e⟩ | ⟨c, _, _, e, _⟩ <;> omega
  have hlen : C.length ≤ C2.length := by rcases hT.what with ⟨e, _⟩ | ⟨c, e, _⟩ <;> rw [e] <;> simp
  have hlen2 : C2.length ≤ C.length + 1 := by rcases hT.what with ⟨e, _⟩ | ⟨c, e, _⟩ <;> rw [e] <;> simp
  have hrest := fun i j s h1 h2 h3 h4 => hN.here i j s h1 h2 h3 h4 (fun m hm => by simp at hm)
  have hst := fun j hj => hN.st0 j hj (fun m hm => by simp at hm)
  have rc : ∀ a b s, ((updP V p v' b).Y a s).rq = ((V b).Y a s).rq ∧ ((updP V p v' b).Y a s).rt = ((V b).Y a s).rt ∧ ((updP V p v' b).Y a s).mm = ((V b).Y a s).mm := fun a b s => by
    by_cases e : b = p
    · subst e; rw [updP_at]; exact hT.rcv a s
    · rw [updP_ne _ _ e]; exact ⟨rfl, rfl, rfl⟩
  refine ⟨fun a ha => ?_, fun a ha => ?_, fun a ha => ?_, fun a ha => ?_, fun a ha => ?_, fun a b s ha hb hab hs => ?_, fun a b s q ha hb hab hs => ?_, fun a b s ha hb hab hs hno => ?_, fun a b s x ha hb hab hs hx hl => ?_, all_pair hT.tell1 p k n, fun x hx => ?_, fun b hb hall => ?_, fun b x hb hx hto hbe => ?_, ?_, ?_, fun c hc a ha e => ?_, ?_, fun b hb => ?_⟩
  · by_cases e : a = p
    · subst e; rw [updP_at, hT.id_]; exact hN.vid a ha
    · rw [updP_ne _ _ e]; exact hN.vid a ha
  · by_cases e : a = p
    · subst e; rw [updP_at, hT.n_]; exact hN.vn a ha
    · rw [updP_ne _ _ e]; exact hN.vn a ha
  · by_cases e : a = p
    · subst e; rw [updP_at, hT.k_]; exact hN.vk a ha
    · rw [updP_ne _ _ e]; exact hN.vk a ha
  · have := hN.ck0 a ha
    by_cases e : a = p
    · subst e; rw [updP_at, hT.ck]; omega
    · rw [updP_ne _ _ e]; exact this
  · have := hN.ck1 a ha
    by_cases e : a = p
    · subst e
      rw [updP_at, hT.ck]
      rcases hT.what with ⟨e1, _, e2⟩ | ⟨c, e1, _, e2, _⟩
      · rw [e1]; omega
      · rw [e1, List.length_append]
        simp
        omega
    · rw [updP_ne _ _ e]; omega
  · have q := hN.snd a b s ha hb hab hs
    by_cases e : a = p
    · subst e
      rw [updP_at, hT.ck]
      cases hS : S s with
      | true =>
        obtain ⟨x, _, _, _, _, _, _, _, g1, g2, g3⟩ := hT.yes b s hb (Ne.symm hab) hs hS
        rw [g1, g2, g3]
        have := hN.ck0 a ha
        omega
      | false =>
        obtain ⟨_, g1, g2, g3⟩ := hT.no b s hb (Ne.symm hab) hs hS
        rw [g1, g2, g3]
        omega
    · rw [updP_ne _ _ e]
      omega
  · rw [(rc a b s).2.2]
    exact hN.non a b s q ha hb hab hs
  · rw [(rc a b s).1, (rc a b s).2.1]
    have q := hrest a b s ha hb hab hs
    by_cases e : a = p
    · subst e
      rw [updP_at]
      cases hS : S s with
      | true =>
        obtain ⟨x, hx, hl, _⟩ := hin b s hb (Ne.symm hab) hs hS
        exact absurd hl (hno x hx)
      | false =>
        obtain ⟨_, g1, g2, g3⟩ := hT.no b s hb (Ne.symm hab) hs hS
        rw [g1, g2]
        exact q
    · rw [updP_ne _ _ e]
      exact q
  · obtain ⟨j, s1, h1, h2, h3, hS, ht, f1, f2, f3, f4, f5, _⟩ := hmem x hx
    obtain ⟨e1, e2, e3⟩ := hl.inj ⟨f1, f2, f3⟩
    subst e1 e2 e3
    obtain ⟨y, g1, _, _, _, _, _, _, g2, g3, g4⟩ := hT.yes b s hb h2 hs hS
    have q := hrest a b s ha hb hab hs
    have q2 := hN.snd a b s ha hb hab hs
    rw [(rc a b s).1, (rc a b s).2.1, updP_at, g2, g3, f4, f5, q.1, q.2]
    refine ⟨rfl, rfl, rfl, q2.1, q2.2.2.2.1, by omega⟩
  · obtain ⟨j, s1, h1, h2, h3, hS, ht, f1, f2, f3, f4, f5, f6⟩ := hmem x hx
    refine ⟨p, j, s1, hp, h1, Ne.symm h2, h3, ⟨f1, f2, f3⟩, ?_⟩
    rcases f6 with ⟨g1, g2, _⟩ | ⟨g1, g2, g3, g4⟩
    · exact .inl ⟨g1, g2⟩
    · exact .inr ⟨g1, g2, g3, C, g4⟩
  · rcases hT.what with ⟨e1, e2, _⟩ | ⟨c, e1, e2, _, e3, _⟩
    · rw [e1]
      by_cases e : b = p
      · subst e; rw [updP_at, e2]; exact hst b hb
      · rw [updP_ne _ _ e]; exact hst b hb
    · by_cases e : b = p
      · subst e; rw [updP_at]; exact e2
      · exfalso
        obtain ⟨x, hx, hl, _⟩ := hin b _ hb e hσ e3
        have hbt := hall x hx hl.2.1
        obtain ⟨_, _, _, _, _, _, _, _, _, _, _, _, f6⟩ := hmem x hx
        rcases f6 with ⟨_, _, g3⟩ | ⟨g1, _⟩
        · have := congrArg List.length (e1.symm.trans g3)
          simp at this
        · rw [hbt] at g1; exact absurd g1 (by decide)
  · obtain ⟨j, s1, h1, h2, h3, hS, ht, f1, f2, f3, f4, f5, f6⟩ := hmem x hx
    have hbp : b ≠ p := by omega
    obtain ⟨_, _, _, g4⟩ := f6.resolve_left (fun h => by rw [hbe] at h; exact absurd h.1 (by decide))
    exact ⟨C, g4, by rw [updP_ne _ _ hbp]; exact hst b hb⟩
  · rcases hT.what with ⟨e1, _⟩ | ⟨c, e1, _, _, _, e4, _⟩
    · rw [e1]; exact hN.com
    · rw [e1]
      intro x hx
      rcases List.mem_append.1 hx with hx | hx
      · exact hN.com x hx
      · rw [List.mem_singleton] at hx
        rw [hx]
        exact e4
  · rcases hT.what with ⟨e1, _⟩ | ⟨c, e1, _, _, _, _, _, _, e4⟩
    · rw [e1]; exact hN.kept
    · exact e4
  · have old : ∀ x ∈ C, x.place = (a : Nat) → timeC x ≤ (updP V p v' a).ck := fun x hx hpl => by
      have := hN.tim x hx a ha hpl
      by_cases e : a = p
      · subst e; rw [updP_at, hT.ck]; omega
      · rw [updP_ne _ _ e]; exact this
    rcases hT.what with ⟨e1, _⟩ | ⟨c', e1, _, _, _, _, e5, e6, _⟩
    · rw [e1] at hc
      exact old c hc e
    · rw [e1] at hc
      rcases List.mem_append.1 hc with hx | hx
      · exact old c hx e
      · rw [List.mem_singleton] at hx
        subst hx
        have : a = p := by omega
        subst this
        rw [updP_at, hT.ck, e6]
        exact Int.le_refl _
  · have := hN.few
    omega
  · obtain ⟨g, g1, g2, g3⟩ := hN.cnt b hb
    have hc := all_to hT.tell1 p k b n
    rw [if_pos hb] at hc
    by_cases e : b = p
    · subst e
      have h0 : (allMs tell b k n).filter (fun m => decide (m.to_ = (b : Int))) = [] := List.filter_eq_nil_iff.2 fun x hx hd => by
        obtain ⟨j, s1, h1, h2, _, _, _, _, f2, _⟩ := hmem x hx
        have := of_decide_eq_true hd
        omega
      rw [h0]
      refine ⟨g + 1, by rw [updP_at]; omega, fun a s ha hab hs => ?_, by simp at g3 ⊢; omega⟩
      rw [updP_at]
      have := hX a s ha hab hs
      have := g2 a s ha hab hs
      omega
    · refine ⟨g, by rw [updP_ne _ _ e]; exact g1, fun a s ha hab hs => by rw [updP_ne _ _ e]; exact g2 a s ha hab hs, ?_⟩
      simp at g3
      omega
end Go.Proofs.YtepnghacjggkkaaGreatDoor
