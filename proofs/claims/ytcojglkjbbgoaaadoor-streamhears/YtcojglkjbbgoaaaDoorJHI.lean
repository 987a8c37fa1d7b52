/- One message, heard by the receiver and by the reference's; One message, heard by the reference's receiver. -/
import Derived.Test.YtcojglkjbbgoaaaDoorJHK
import Derived.Test.YtcojglkjbbgoaaaDoorJHQ
import Derived.Test.YtcojglkjbbgoaaaDoorJECode
namespace Go.Proofs.YtcojglkjbbgoaaaDoor
open Go.RowKit Go.Maps
set_option maxRecDepth 100000

/-- Both receivers, behind i messages. -/
structure Str (w : World) (f t s : Int) (g mb g2 i q : Nat) (seq time : Int) (M : Int → Option Raw) (N : Int → Option MsgV) (v : Value) (L : List Raw) (wr : World) : Prop where
  below : Below w.heap.size w wr
  rcv : RcvM wr g mb q f t s seq time M
  ref : Ref wr g2 f t s seq time v L
  g0 : w.heap.size ≤ g
  m0 : w.heap.size ≤ mb
  h0 : w.heap.size ≤ g2
  gm : g ≠ mb
  gg : g2 ≠ g
  gm2 : g2 ≠ mb
  vg : ∀ b, v.ownBlock = some b → b ≠ g ∧ b ≠ mb
  keep : Keep wr M N
  lists : Lists w N L
  rng : ∀ k m, N k = some m → seq < k ∧ k ≤ seq + 201 ∧ m.seq = k ∧ Light m.c
  nxt : N (seq + 1) = none
  s0 : 0 ≤ seq
  cnt : seq + L.length ≤ i
  qn : q ≤ i
theorem Str.moved {w : World} {f t s : Int} {g mb g2 i q : Nat} {seq time : Int} {M : Int → Option Raw} {N : Int → Option MsgV} {v : Value} {L : List Raw} {wr w' : World} (h : Str w f t s g mb g2 i q seq time M N v L wr) (hb : Below wr.heap.size wr w') : Str w f t s g mb g2 i q seq time M N v L w' :=
  ⟨h.below.trans (hb.mono h.below.size), h.rcv.below hb, h.ref.moved hb, h.g0, h.m0, h.h0, h.gm, h.gg, h.gm2, h.vg, h.keep.kept (Keeps.bel hb), h.lists, h.rng, h.nxt, h.s0, h.cnt, h.qn⟩
theorem Str.next {w : World} {f t s : Int} {g mb g2 i q : Nat} {seq time : Int} {M : Int → Option Raw} {N : Int → Option MsgV} {v : Value} {L : List Raw} {wr : World} (h : Str w f t s g mb g2 i q seq time M N v L wr) : Str w f t s g mb g2 (i + 1) q seq time M N v L wr :=
  ⟨h.below, h.rcv, h.ref, h.g0, h.m0, h.h0, h.gm, h.gg, h.gm2, h.vg, h.keep, h.lists, h.rng, h.nxt, h.s0, by have := h.cnt; omega, by have := h.qn; omega⟩
/-- What becomes of a message: 0: it is of another stream; 1: its number or its time is none; 2: it is old; 3: it is kept already; 4: it is too far ahead; 5: it is new. -/
def clsOf (f t s seq : Int) (N : Int → Option MsgV) (m : MsgV) : Nat :=
  if m.frm = f ∧ m.to_ = t ∧ m.shard = s then
    if m.seq < 1 ∨ timeB m.time = false then 1
    else if m.seq ≤ seq then 2
    else if (N m.seq).isSome then 3
    else if 200 < m.seq - (seq + 1) then 4
    else 5
  else 0
/-- An error as the program hands it out, and its number. -/
def errOf (A : Nat → Addr) (c : Nat) : Value × Int :=
  if c = 0 then (.iface 162 (.pointer (some (A 2))), 3) else if c = 1 then (.iface 162 (.pointer (some (A 1))), 2) else if c = 4 then (.iface 162 (.pointer (some (A 6))), 7) else (.nilIface, 0)
theorem coded_cls (A : Nat → Addr) (B : Nat) (c : Nat) (w : World) (hS : Sents A B w) : Calls Tryd.prog 16 #[(errOf A c).1, .int .i64 (errOf A c).2] w fun e w' => e = .returned (.bool true) ∧ Below w.heap.size w w' := by
  unfold errOf
  by_cases h0 : c = 0
  · rw [if_pos h0]
    exact coded_sent A B w 2 3 hS (by decide) rfl
  · rw [if_neg h0]
    by_cases h1 : c = 1
    · rw [if_pos h1]
      exact coded_sent A B w 1 2 hS (by decide) rfl
    · rw [if_neg h1]
      by_cases h4 : c = 4
      · rw [if_pos h4]
        exact coded_sent A B w 6 7 hS (by decide) rfl
      · rw [if_neg h4]
        refine (coded_nil w).mono ?_
        rintro e w' ⟨rfl, rfl⟩
        exact ⟨rfl, Below.refl _ _⟩
theorem bears_of {f t s : Int} {r : Raw} {m : MsgV} (h : r.Nums m) : bearsB f t s r = decide (m.frm = f ∧ m.to_ = t ∧ m.shard = s) := by
  unfold bearsB
  rw [h.x1, h.x2, h.x3]
  by_cases h1 : m.frm = f <;> by_cases h2 : m.to_ = t <;> by_cases h3 : m.shard = s <;> simp [h1, h2, h3]
/-- What the program's Hear leaves. -/
def P1 (g mb q : Nat) (f t s seq time : Int) (M : Int → Option Raw) (m : MsgV) (wr : World) (c : Nat) (xv : Value) (w1 : World) : Prop :=
  (c ≠ 5 ∧ xv = .slice none 0 0 ∧ Below wr.heap.size wr w1) ∨ (c = 5 ∧ HrNew wr g mb q f t s seq time m.seq M m (.returned (.tuple #[xv, .nilIface])) w1)
theorem prog_hear (A : Nat → Addr) (B : Nat) (w : World) (hS : Sents A B w) (f t s : Int) (g mb g2 i q : Nat) (seq time : Int) (M : Int → Option Raw) (N : Int → Option MsgV) (v : Value) (L : List Raw) (wr : World) (h : Str w f t s g mb g2 i q seq time M N v L wr) (hi : i ≤ 60) (r : Raw) (m : MsgV) (hr : RawAt wr r m) (hL : Light m.c) (h64 : n64 m.seq) :
    Calls Tryd.prog 11 #[.pointer (some ⟨g, 0, none⟩), .agg r.cells.toArray] wr fun e w1 => ∃ xv, e = .returned (.tuple #[xv, (errOf A (clsOf f t s seq N m)).1]) ∧ P1 g mb q f t s seq time M m wr (clsOf f t s seq N m) xv w1 := by
  have hSr : Sents A B wr := hS.below (h.below.mono hS.size)
  have hb := bears_of (f := f) (t := t) (s := s) hr.nums
  have hx4 := hr.nums.x4
  have hx5 := hr.nums.x5
  have hs0 := h.s0
  have hcnt := h.cnt
  have hqn := h.qn
  unfold clsOf
  by_cases c1 : m.frm = f ∧ m.to_ = t ∧ m.shard = s
  · rw [if_pos c1]
    rw [decide_eq_true c1] at hb
    by_cases c2 : m.seq < 1 ∨ timeB m.time = false
    · rw [if_pos c2]
      by_cases c3 : m.seq < 1
      · refine (hear_seq wr g mb q f t s seq time M r h.rcv _ (hSr.cell 1 (by decide)) hb (by rw [hx4]; exact c3)).mono ?_
        rintro e w1 ⟨rfl, hb1⟩
        exact ⟨_, rfl, .inl ⟨by decide, rfl, hb1⟩⟩
      · refine (hear_time wr g mb q f t s seq time M r h.rcv _ (hSr.cell 1 (by decide)) hb (by rw [hx4]; omega) (by rw [hx5]; rcases c2 with c2 | c2; exact absurd c2 c3; exact c2)).mono ?_
        rintro e w1 ⟨rfl, hb1⟩
        exact ⟨_, rfl, .inl ⟨by decide, rfl, hb1⟩⟩
    · rw [if_neg c2]
      have d1 : 1 ≤ r.x4 := by rw [hx4]; omega
      have d2 : timeB r.x5 = true := by
        rw [hx5]
        cases e : timeB m.time with
        | true => rfl
        | false => exact absurd (.inr e) c2
      have d3 : n64 r.x4 := by rw [hx4]; exact h64
      have hkn : ((M r.x4).isSome || decide (r.x4 ≤ seq)) = ((N m.seq).isSome || decide (m.seq ≤ seq)) := by rw [h.keep.isSome, hx4]
      by_cases c3 : m.seq ≤ seq
      · rw [if_pos c3]
        refine (hear_old wr g mb q f t s seq time M r h.rcv hb d1 d2 d3 (by rw [hkn, decide_eq_true c3, Bool.or_true])).mono ?_
        rintro e w1 ⟨rfl, hb1⟩
        exact ⟨_, rfl, .inl ⟨by decide, rfl, hb1⟩⟩
      · rw [if_neg c3]
        by_cases c4 : (N m.seq).isSome = true
        · rw [if_pos c4]
          refine (hear_old wr g mb q f t s seq time M r h.rcv hb d1 d2 d3 (by rw [hkn, c4, Bool.true_or])).mono ?_
          rintro e w1 ⟨rfl, hb1⟩
          exact ⟨_, rfl, .inl ⟨by decide, rfl, hb1⟩⟩
        · rw [if_neg c4]
          have d4 : ((M r.x4).isSome || decide (r.x4 ≤ seq)) = false := by
            rw [hkn, decide_eq_false c3, Bool.or_false]
            simpa using c4
          by_cases c5 : 200 < m.seq - (seq + 1)
          · rw [if_pos c5]
            refine (hear_full wr g mb q f t s seq time M r h.rcv _ (hSr.cell 6 (by decide)) hb d1 d2 d3 d4 hs0 (by omega) (by rw [hx4]; exact c5)).mono ?_
            rintro e w1 ⟨rfl, hb1⟩
            exact ⟨_, rfl, .inl ⟨by decide, rfl, hb1⟩⟩
          · rw [if_neg c5]
            refine (hear_new_raw wr g mb q f t s seq time M r h.rcv m hr hL h.gm (by omega) hb d1 d2 d3 d4 hs0 (by omega) (by rw [hx4]; omega) fun r' hr' => ?_).mono ?_
            · have hbd : ∀ k, (updV M r.x4 (some r') k).isSome = true → k ≤ 900 := fun k hk => by
                unfold updV at hk
                split at hk
                · rename_i e
                  rw [e, hx4]
                  omega
                · rw [h.keep.isSome, Option.isSome_iff_exists] at hk
                  obtain ⟨m', hm'⟩ := hk
                  have := (h.rng k m' hm').2.1
                  omega
              obtain ⟨c, h1, h2, h3⟩ := run_raw (updV M r.x4 (some r')) seq hbd (900 - seq).toNat 0 (by omega)
              refine ⟨c, fun i => ((updV M r.x4 (some r') (seq + ((i + 1 : Nat) : Int))).getD r'), by omega, fun i hi => ?_, by rw [Nat.zero_add] at h3; exact h3⟩
              have h4 := h2 i hi
              rw [Nat.zero_add] at h4
              obtain ⟨y, hy⟩ := Option.isSome_iff_exists.1 h4
              dsimp only
              rw [hy]
              refine ⟨rfl, ?_⟩
              show y.x4 = _
              unfold updV at hy
              split at hy
              · rename_i e
                obtain rfl := Option.some.inj hy
                rw [e, hx4, hr'.x4]
              · obtain ⟨m', e1, e2⟩ := h.keep.own _ _ hy
                rw [e2.nums.x4, (h.rng _ m' e1).2.2.1]
            · rintro e w1 hn
              have hn' := hn
              obtain ⟨xv, c, rs, r', rfl, _⟩ := hn
              rw [hx4] at hn'
              exact ⟨xv, rfl, .inr ⟨rfl, hn'⟩⟩
  · rw [if_neg c1]
    rw [decide_eq_false c1] at hb
    refine (hear_shape wr g mb q f t s seq time M r h.rcv _ (hSr.cell 2 (by decide)) hb).mono ?_
    rintro e w1 ⟨rfl, hb1⟩
    exact ⟨_, rfl, .inl ⟨by decide, rfl, hb1⟩⟩
/-- What both Hears leave: what has come, alike, and both receivers. -/
structure Mid (w : World) (f t s : Int) (g mb g2 i : Nat) (xv yv : Value) (ms : List MsgV) (w2 : World) : Prop where
  x : MsgsAt w2 yv ms
  y : ∃ (base : Nat) (rs : List Raw), w2.ownsRow base 37 9 xv ms.length (raws rs) ∧ F2 (RawAt w2) rs ms
  small : ∀ m ∈ ms, Small m
  len : ms.length ≤ 1000
  str : ∃ (q : Nat) (seq time : Int) (M : Int → Option Raw) (N : Int → Option MsgV) (v : Value) (L : List Raw), Str w f t s g mb g2 (i + 1) q seq time M N v L w2
theorem msgs_nil (w : World) : MsgsAt w (.slice none 0 0) [] := ⟨[], none, 0, rfl, rfl, (fun i r m h => by simp at h), .inl rfl⟩
theorem Mid.none_ {w : World} {f t s : Int} {g mb g2 i q : Nat} {seq time : Int} {M : Int → Option Raw} {N : Int → Option MsgV} {v : Value} {L : List Raw} {w2 : World} (h : Str w f t s g mb g2 (i + 1) q seq time M N v L w2) : Mid w f t s g mb g2 i (.slice none 0 0) (.slice none 0 0) [] w2 :=
  ⟨msgs_nil _, ⟨0, [], World.ownsRow_nil _ _ _ _, trivial⟩, (fun m hm => by simp at hm), by simp, ⟨q, seq, time, M, N, v, L, h⟩⟩
/-- The reference's receiver has turned: the program's stands. -/
theorem keeps_of_only {g : Nat} {v : Value} {w w' : World} {cs : Array Value} {t1 : Nat} (h : OnlyS g v w w') (hg : w.heap[g]? = some (.cells cs t1 (0, 0))) (h1 : t1 ≠ 3 ∧ t1 ≠ 99 ∧ t1 ≠ 125) (hv : ∀ b, v.ownBlock = some b → ∃ cs, w.heap[b]? = some (.cells cs 58 (0, 0))) : Keeps w w' := fun t ht b cs' hc => by
  refine h.block b (lt_of_heap hc) (fun e => ?_) fun e => ?_
  · subst e
    rw [hg] at hc
    injection hc with hc
    injection hc with _ hc
    rcases ht with e | e | e
    · exact h1.1 (hc.trans e)
    · exact h1.2.1 (hc.trans e)
    · exact h1.2.2 (hc.trans e)
  · obtain ⟨cs2, h2⟩ := hv b e
    rw [h2] at hc
    injection hc with hc
    injection hc with _ hc
    rcases ht with e | e | e <;> (rw [e] at hc; exact absurd hc (by decide))
theorem keeps_of_onlyR {g mb q : Nat} {f t s seq time : Int} {M : Int → Option Raw} {w w' : World} (h : OnlyR g mb w w') (hr : RcvM w g mb q f t s seq time M) : Keeps w w' := fun t ht b cs' hc => by
  refine h.block b (lt_of_heap hc) (fun e => ?_) fun e => ?_
  · subst e
    rw [hr.box] at hc
    injection hc with hc
    injection hc with _ hc
    rcases ht with e | e | e <;> (rw [e] at hc; exact absurd hc (by decide))
  · subst e
    obtain ⟨D, ⟨es, clock, hb, _⟩, _⟩ := hr.map
    rw [hb] at hc
    cases hc
theorem Ref.rowType {w : World} {g : Nat} {f t s seq time : Int} {v : Value} {L : List Raw} (h : Ref w g f t s seq time v L) : ∀ b, v.ownBlock = some b → ∃ cs, w.heap[b]? = some (.cells cs 58 (0, 0)) := fun _ hb => own_type h.row hb
/-- The program's receiver has turned: the reference's stands. -/
theorem Ref.moved' {w w' : World} {g g2 mb : Nat} {f t s seq time : Int} {v : Value} {L : List Raw} (h : Ref w g2 f t s seq time v L) (ho : OnlyR g mb w w') (h1 : g2 ≠ g) (h2 : g2 ≠ mb) (hv : ∀ b, v.ownBlock = some b → b ≠ g ∧ b ≠ mb) : Ref w' g2 f t s seq time v L :=
  ⟨by rw [ho.block g2 (lt_of_heap h.box) h1 h2]; exact h.box, owns_own h.row fun b hb => ho.block b (h.row.lt b hb).2 (hv b hb).1 (hv b hb).2⟩
/-- Behind the reference's Hear that pulls nothing. -/
theorem Str.ref_same {w : World} {f t s : Int} {g mb g2 i q : Nat} {seq time : Int} {M : Int → Option Raw} {N : Int → Option MsgV} {v v' : Value} {L L' : List Raw} {wr w' : World} (h : Str w f t s g mb g2 i q seq time M N v L wr) (hr : Ref w' g2 f t s seq time v' L') (ho : OnlyS g2 v wr w') (hv : ∀ b, v'.ownBlock = some b → v.ownBlock = some b ∨ wr.heap.size ≤ b) (hp : L.Perm L') : Str w f t s g mb g2 i q seq time M N v' L' w' := by
  have hgl := lt_of_heap h.rcv.box
  have hml := h.rcv.mlt
  refine ⟨⟨ho.os.trans h.below.os, ho.tape.trans h.below.tape, ho.output.trans h.below.output, Nat.le_trans h.below.size ho.size, fun k hk => ?_⟩, h.rcv.moved (ho.block g hgl h.gg.symm fun e => (h.vg g e).1 rfl) (ho.block mb hml h.gm2.symm fun e => (h.vg mb e).2 rfl), hr, h.g0, h.m0, h.h0, h.gm, h.gg, h.gm2, fun b hb => ?_, h.keep.kept (keeps_of_only ho h.ref.box (by decide) h.ref.rowType), h.lists.perm hp, h.rng, h.nxt, h.s0, by have := h.cnt; rw [← hp.length_eq]; exact this, h.qn⟩
  · have hs := h.below.size
    have h0 := h.h0
    rw [ho.block k (by omega) (by omega) (fun e => by have := (h.ref.row.lt k e).1; omega)]
    exact h.below.block k hk
  · rcases hv b hb with e | e
    · exact h.vg b e
    · omega
end Go.Proofs.YtcojglkjbbgoaaaDoor
namespace Go.Proofs.YtcojglkjbbgoaaaDoor
open Go.RowKit Go.Maps
set_option maxRecDepth 100000

/-- The mathematics of a message that is new. -/
theorem new_mid {w : World} {f t s : Int} {g mb g2 i q : Nat} {seq time : Int} {M : Int → Option Raw} {N : Int → Option MsgV} {v v' xv yv : Value} {L L' out : List Raw} {wr w1 w2 : World} {m : MsgV} {r r' : Raw} {c : Nat} {rs : Nat → Raw} (h : Str w f t s g mb g2 i q seq time M N v L wr) (hi : i ≤ 60) (hr : RawAt w r m) (hL : Light m.c) (hk0 : seq < m.seq) (hk1 : m.seq ≤ seq + 201) (hN : N m.seq = none)
    (p1 : w1.ownsRow wr.heap.size 37 9 xv c (raws (comeR rs c))) (p2 : RcvM w1 g mb (q + 1) f t s (seq + c) (timeR time rs c) (comeV (updV M m.seq (some r')) seq c)) (p3 : RawOwn wr.heap.size w1 r' m) (p4 : OnlyR g mb wr w1) (p5 : ∀ i, i < c → updV M m.seq (some r') (seq + (i + 1 : Nat)) = some (rs i)) (p6 : updV M m.seq (some r') (seq + (c + 1 : Nat)) = none)
    (q1 : w2.ownsRow w1.heap.size 58 9 yv out.length (raws out)) (q2 : Ref w2 g2 f t s (seq + out.length) (lastX time out) v' L') (q3 : Pulled seq (putL L r) out L') (q4 : OnlyS g2 v w1 w2) (q5 : ∀ b, v'.ownBlock = some b → v.ownBlock = some b ∨ w1.heap.size ≤ b) :
    ∃ ms, Mid w f t s g mb g2 i xv yv ms w2 := by
  have hx4 := hr.nums.x4
  have hN' : N r.x4 = none := by rw [hx4]; exact hN
  rw [h.lists.putL_new hN'] at q3
  have hlA := h.lists.add hr hN'
  rw [hx4] at hlA
  obtain ⟨a1, a2, a3⟩ := hlA.pulled q3
  have hkw1 := keeps_of_onlyR p4 h.rcv
  have hK1 : Keep w1 (updV M m.seq (some r')) (updN N m.seq (some m)) := (h.keep.kept hkw1).add (p3.base (Nat.zero_le _))
  -- as many
  have hoc : out.length = c := by
    rcases Nat.lt_trichotomy out.length c with hlt | he | hgt
    · have e1 := p5 out.length hlt
      have e2 := hK1.isSome (seq + (out.length + 1 : Nat))
      rw [e1, a2] at e2
      cases e2
    · exact he
    · have e2 := hK1.isSome (seq + (c + 1 : Nat))
      obtain ⟨m', e3, _⟩ := a1 c _ (List.getElem?_eq_getElem hgt)
      rw [p6, e3] at e2
      cases e2
  -- the messages that have come
  obtain ⟨fm, hfm⟩ : ∃ fm : Nat → MsgV, ∀ j, j < c → updN N m.seq (some m) (seq + ((j + 1 : Nat) : Int)) = some (fm j) := by
    refine ⟨fun j => (updN N m.seq (some m) (seq + ((j + 1 : Nat) : Int))).getD m, fun j hj => ?_⟩
    obtain ⟨m', e3, _⟩ := a1 j _ (List.getElem?_eq_getElem (by omega))
    dsimp only
    rw [e3]
    rfl
  have hk12 := keeps_of_only q4 (h.ref.moved' p4 h.gg h.gm2 h.vg).box (by decide) (h.ref.moved' p4 h.gg h.gm2 h.vg).rowType
  have hb12 : Below w.heap.size w w2 := by
    have hs := h.below.size
    have h0 := h.h0
    refine ⟨q4.os.trans (p4.os.trans h.below.os), q4.tape.trans (p4.tape.trans h.below.tape), q4.output.trans (p4.output.trans h.below.output), Nat.le_trans h.below.size (Nat.le_trans p4.size q4.size), fun k hk => ?_⟩
    rw [q4.block k (by have := p4.size; omega) (by omega) (fun e => by have := (h.ref.row.lt k e).1; omega), p4.block k (by omega) (by have := h.g0; omega) (by have := h.m0; omega)]
    exact h.below.block k hk
  have hlen : ((List.range c).map fm).length = c := by simp
  have hget : ∀ (j : Nat) (x : MsgV), ((List.range c).map fm)[j]? = some x → j < c ∧ x = fm j := fun j x hx => by
    have hj : j < c := by have := (List.getElem?_eq_some_iff.1 hx).1; simpa using this
    rw [List.getElem?_map, List.getElem?_range hj] at hx
    exact ⟨hj, (Option.some.inj hx).symm⟩
  have hrng : ∀ k x, updN N m.seq (some m) k = some x → seq < k ∧ k ≤ seq + 201 ∧ x.seq = k ∧ Light x.c := fun k x hx => by
    unfold updN at hx
    split at hx
    · rename_i e
      obtain rfl := Option.some.inj hx
      exact ⟨by omega, by omega, e.symm, hL⟩
    · exact h.rng k x hx
  have hF1 : F2 (RawAt w2) (comeR rs c) ((List.range c).map fm) := f2_of (by rw [comeR_len, hlen]) fun j a b ha hb => by
    obtain ⟨hj, rfl⟩ := hget j b hb
    unfold comeR at ha
    rw [List.getElem?_map, List.getElem?_range hj] at ha
    obtain rfl := Option.some.inj ha
    obtain ⟨m', e1, e2⟩ := hK1.own _ _ (p5 j hj)
    rw [hfm j hj] at e1
    obtain rfl := Option.some.inj e1
    exact (e2.kept hk12).at_
  have hF2 : F2 (RawAt w2) out ((List.range c).map fm) := f2_of (by rw [hlen, hoc]) fun j a b ha hb => by
    obtain ⟨hj, rfl⟩ := hget j b hb
    obtain ⟨m', e1, e2⟩ := a1 j a ha
    rw [hfm j hj] at e1
    obtain rfl := Option.some.inj e1
    exact e2.mono hb12 (Nat.le_refl _)
  have htime : timeR time rs c = lastX time out := by
    cases c with
    | zero =>
      obtain rfl : out = [] := List.eq_nil_of_length_eq_zero hoc
      rfl
    | succ c =>
      show (rs c).x5 = _
      obtain ⟨x, hx⟩ : ∃ x, out[c]? = some x := ⟨_, List.getElem?_eq_getElem (by omega)⟩
      have hlast : out.getLast? = some x := by
        rw [List.getLast?_eq_getElem?, show out.length - 1 = c by omega]
        exact hx
      unfold lastX
      rw [hlast]
      show (rs c).x5 = x.x5
      obtain ⟨m1, e1, e2⟩ := hK1.own _ _ (p5 c (by omega))
      obtain ⟨m2, e3, e4⟩ := a1 c _ hx
      rw [e1] at e3
      obtain rfl := Option.some.inj e3
      rw [e2.nums.x5, e4.nums.x5]
  have hsmall : ∀ x ∈ (List.range c).map fm, Small x := fun x hx => by
    obtain ⟨j, hj⟩ := List.getElem?_of_mem hx
    obtain ⟨hjc, rfl⟩ := hget j x hj
    exact Light.small (hrng _ _ (hfm j hjc)).2.2.2
  have hcl : c + L'.length = L.length + 1 := by
    have := q3.perm.length_eq
    rw [List.length_append, List.length_append, hoc] at this
    simpa using this.symm
  have hcnt := h.cnt
  have hs0 := h.s0
  refine ⟨(List.range c).map fm, msgs_of_row q1 rfl hF2, ⟨wr.heap.size, comeR rs c, ?_, hF1⟩, hsmall, by rw [hlen]; omega, q + 1, seq + c, timeR time rs c, comeV (updV M m.seq (some r')) seq c, comeN (updN N m.seq (some m)) seq c, v', L', ?_⟩
  · rw [hlen]
    refine owns_own p1 fun b hb => ?_
    have hl := p1.lt b hb
    refine q4.block b hl.2 (fun e => ?_) fun e => ?_
    · have := lt_of_heap h.ref.box; omega
    · have := (h.ref.row.lt b e).2; omega
  · have hgl := lt_of_heap h.rcv.box
    have hml := h.rcv.mlt
    have hsz := p4.size
    refine ⟨hb12, p2.moved (q4.block g (by omega) h.gg.symm fun e => (h.vg g e).1 rfl) (q4.block mb (by omega) h.gm2.symm fun e => (h.vg mb e).2 rfl), ?_, h.g0, h.m0, h.h0, h.gm, h.gg, h.gm2, fun b hb => ?_, (hK1.kept hk12).come seq c, by rw [← hoc]; exact a3, fun k x hx => ?_, ?_, by have := h.s0; omega, by omega, by have := h.qn; omega⟩
    · rw [htime, ← hoc]
      exact q2
    · rcases q5 b hb with e | e
      · exact h.vg b e
      · omega
    · unfold comeN at hx
      split at hx
      · cases hx
      · obtain ⟨e1, e2, e3, e4⟩ := hrng k x hx
        exact ⟨by omega, by omega, e3, e4⟩
    · unfold comeN
      rw [if_neg (by omega), show seq + (c : Int) + 1 = seq + ((out.length + 1 : Nat) : Int) by rw [hoc]; omega]
      exact a2
theorem ref_hear (A : Nat → Addr) (w : World) (f t s : Int) (g mb g2 i q : Nat) (seq time : Int) (M : Int → Option Raw) (N : Int → Option MsgV) (v : Value) (L : List Raw) (wr : World) (h : Str w f t s g mb g2 i q seq time M N v L wr) (hi : i ≤ 60) (m : MsgV) (hL : Light m.c) (xv : Value) (w1 : World) (hp : P1 g mb q f t s seq time M m wr (clsOf f t s seq N m) xv w1) (r : Raw) (hr : RawAt w r m) :
    Calls Tryd.prog 30 #[.pointer (some ⟨g2, 0, none⟩), .agg r.cells.toArray] w1 fun e w2 => ∃ yv ms, e = .returned (.tuple #[yv, .int .i64 (errOf A (clsOf f t s seq N m)).2]) ∧ Mid w f t s g mb g2 i xv yv ms w2 := by
  have hb := bears_of (f := f) (t := t) (s := s) hr.nums
  have hx4 := hr.nums.x4
  have hx5 := hr.nums.x5
  have hs0 := h.s0
  have hcnt := h.cnt
  obtain ⟨cl, hcl⟩ : ∃ cl, cl = clsOf f t s seq N m := ⟨_, rfl⟩
  rw [← hcl] at hp ⊢
  rcases hp with ⟨hne, rfl, hb1⟩ | ⟨hc5, hn⟩
  ·
    have hS := (h.moved hb1)
    unfold clsOf at hcl
    by_cases c1 : m.frm = f ∧ m.to_ = t ∧ m.shard = s
    · rw [if_pos c1] at hcl
      rw [decide_eq_true c1] at hb
      by_cases c2 : m.seq < 1 ∨ timeB m.time = false
      · rw [if_pos c2] at hcl
        subst hcl
        by_cases c3 : m.seq < 1
        · refine (ref_seq w1 g2 f t s seq time v L r hS.ref hb (by rw [hx4]; exact c3)).mono ?_
          rintro e w2 ⟨rfl, hb2⟩
          exact ⟨_, _, rfl, Mid.none_ (hS.moved hb2).next⟩
        · refine (ref_time w1 g2 f t s seq time v L r hS.ref hb (by rw [hx4]; omega) (by rw [hx5]; rcases c2 with c2 | c2; exact absurd c2 c3; exact c2)).mono ?_
          rintro e w2 ⟨rfl, hb2⟩
          exact ⟨_, _, rfl, Mid.none_ (hS.moved hb2).next⟩
      · rw [if_neg c2] at hcl
        have d1 : 1 ≤ r.x4 := by rw [hx4]; omega
        have d2 : timeB r.x5 = true := by
          rw [hx5]
          cases e : timeB m.time with
          | true => rfl
          | false => exact absurd (.inr e) c2
        by_cases c3 : m.seq ≤ seq
        · rw [if_pos c3] at hcl
          subst hcl
          refine (ref_old w1 g2 f t s seq time v L r hS.ref hb d1 d2 (by rw [hx4]; exact c3)).mono ?_
          rintro e w2 ⟨rfl, hb2⟩
          exact ⟨_, _, rfl, Mid.none_ (hS.moved hb2).next⟩
        · rw [if_neg c3] at hcl
          by_cases c4 : (N m.seq).isSome = true
          · rw [if_pos c4] at hcl
            subst hcl
            obtain ⟨m', hm'⟩ := Option.isSome_iff_exists.1 c4
            have hrg := h.rng _ _ hm'
            refine (ref_scan w1 g2 f t s seq time v L r hS.ref hb d1 d2 hs0 (by omega) (by rw [hx4]; omega) (by rw [hx4]; omega) (by omega)).mono ?_
            rintro e w2 ⟨yv, v', out, L', rfl, q1, q2, q3, q4, q5⟩
            rw [hS.lists.putL_old (r := r) (m := m') (by rw [hx4]; exact hm')] at q3
            obtain ⟨a1, _, _⟩ := hS.lists.pulled q3
            have ho : out = [] := by
              cases out with
              | nil => rfl
              | cons x l =>
                obtain ⟨m2, e2, _⟩ := a1 0 x rfl
                have := h.nxt
                rw [show seq + ((0 + 1 : Nat) : Int) = seq + 1 by omega, this] at e2
                cases e2
            subst ho
            have q2' : Ref w2 g2 f t s seq time v' L' := by
              have e : seq + (([] : List Raw).length : Int) = seq := by simp
              rw [e] at q2
              exact q2
            have hst := (hS.ref_same q2' q4 q5 (by have := q3.perm; simpa using this)).next
            exact ⟨yv, [], rfl, msgs_of_row q1 rfl trivial, ⟨0, [], World.ownsRow_nil _ _ _ _, trivial⟩, (fun m hm => by simp at hm), by simp, _, _, _, _, _, _, _, hst⟩
          · rw [if_neg c4] at hcl
            by_cases c5 : 200 < m.seq - (seq + 1)
            · rw [if_pos c5] at hcl
              subst hcl
              refine (ref_far w1 g2 f t s seq time v L r hS.ref hb d1 d2 hs0 (by omega) (by rw [hx4]; omega)).mono ?_
              rintro e w2 ⟨rfl, hb2⟩
              exact ⟨_, _, rfl, Mid.none_ (hS.moved hb2).next⟩
            · rw [if_neg c5] at hcl
              exact absurd hcl hne
    · rw [if_neg c1] at hcl
      subst hcl
      rw [decide_eq_false c1] at hb
      refine (ref_shape w1 g2 f t s seq time v L r hS.ref hb).mono ?_
      rintro e w2 ⟨rfl, hb2⟩
      exact ⟨_, _, rfl, Mid.none_ (hS.moved hb2).next⟩
  ·
    subst hc5
    have hc : (m.frm = f ∧ m.to_ = t ∧ m.shard = s) ∧ ¬ (m.seq < 1 ∨ timeB m.time = false) ∧ ¬ m.seq ≤ seq ∧ ¬ (N m.seq).isSome = true ∧ ¬ 200 < m.seq - (seq + 1) := by
      unfold clsOf at hcl
      by_cases c1 : m.frm = f ∧ m.to_ = t ∧ m.shard = s
      · rw [if_pos c1] at hcl
        by_cases c2 : m.seq < 1 ∨ timeB m.time = false
        · rw [if_pos c2] at hcl; exact absurd hcl (by decide)
        · rw [if_neg c2] at hcl
          by_cases c3 : m.seq ≤ seq
          · rw [if_pos c3] at hcl; exact absurd hcl (by decide)
          · rw [if_neg c3] at hcl
            by_cases c4 : (N m.seq).isSome = true
            · rw [if_pos c4] at hcl; exact absurd hcl (by decide)
            · rw [if_neg c4] at hcl
              by_cases c5 : 200 < m.seq - (seq + 1)
              · rw [if_pos c5] at hcl; exact absurd hcl (by decide)
              · exact ⟨c1, c2, c3, c4, c5⟩
      · rw [if_neg c1] at hcl; exact absurd hcl (by decide)
    obtain ⟨c1, c2, c3, c4, c5⟩ := hc
    rw [decide_eq_true c1] at hb
    have d1 : 1 ≤ r.x4 := by rw [hx4]; omega
    have d2 : timeB r.x5 = true := by
      rw [hx5]
      cases e : timeB m.time with
      | true => rfl
      | false => exact absurd (.inr e) c2
    have hN : N m.seq = none := by
      cases e : N m.seq with
      | none => rfl
      | some x => rw [e] at c4; exact absurd rfl c4
    obtain ⟨xv', c, rs, r', he, p1, p2, p3, p4, p5, p6⟩ := hn
    injection he with he
    injection he with he
    have hxv : xv = xv' := by
      have := congrArg (fun (a : Array Value) => a[0]?) he
      simpa using this
    subst hxv
    refine (ref_scan w1 g2 f t s seq time v L r (h.ref.moved' p4 h.gg h.gm2 h.vg) hb d1 d2 hs0 (by omega) (by rw [hx4]; omega) (by rw [hx4]; omega) (by omega)).mono ?_
    rintro e w2 ⟨yv, v', out, L', rfl, q1, q2, q3, q4, q5⟩
    obtain ⟨ms, hm⟩ := new_mid h hi hr hL (by omega) (by omega) hN p1 p2 p3 p4 p5 p6 q1 q2 q3 q4 q5
    exact ⟨yv, ms, rfl, hm⟩
end Go.Proofs.YtcojglkjbbgoaaaDoor
