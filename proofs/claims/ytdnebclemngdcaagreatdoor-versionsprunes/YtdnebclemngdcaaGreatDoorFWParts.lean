/- Two stores side by side, and a row of one's own; ValuesTurned: the walk; VersionsParts: the walk. -/
import Derived.Test.YtdnebclemngdcaaGreatDoorFWKeys
import Derived.Test.YtdnebclemngdcaaGreatDoorFWLaid
import Derived.Test.YtdnebclemngdcaaGreatDoorFWPutE
import Derived.Test.YtdnebclemngdcaaGreatDoorFWReadB
import Derived.Test.YtdnebclemngdcaaGreatDoorFWOwn
namespace Go.Proofs.YtdnebclemngdcaaGreatDoor
open Go.RowKit Go.Sort Go.Maps
set_option maxRecDepth 100000
set_option linter.unusedSectionVars false
variable [Inhabited ComV] [DecidableEq D3] [Inhabited D3] [Inhabited Dd] [Inhabited Dn] [Inhabited OpV]

/-- A row of one's own stays as long as its own block does. -/
theorem owns_own {w w' : World} {base e size n : Nat} {v : Value} {xs : List Value} (h : w.ownsRow base e size v n xs) (hk : ∀ b, v.ownBlock = some b → w'.heap[b]? = w.heap[b]?) : w'.ownsRow base e size v n xs := by
  obtain ⟨h1, h2⟩ := h
  refine ⟨h1, ?_⟩
  rcases h2 with h2 | ⟨b, cap, cur, hv, hg, hh, r⟩
  · exact .inl h2
  · exact .inr ⟨b, cap, cur, hv, hg, by rw [hk b (by rw [hv]; rfl)]; exact hh, r⟩
/-- A store stands while another one is put into. -/
theorem VerAt.turned {w w' : World} {p mb db n : Nat} {f : ByteArray → Value} {s : St} (h : VerAt w p mb db f s n) {m d : Nat} {g g' : ByteArray → Value} (ht : Turn w w' m d g g') (hk : Keep3 w w') {s' : St} {p' n' : Nat} (ho : VerAt w p' m d g s' n') (n1 : mb ≠ m) (n2 : mb ≠ d) (n3 : db ≠ m) (n4 : db ≠ d) (ha : ∀ k k' b, (f k).ownBlock = some b → (g k').ownBlock ≠ some b) : VerAt w' p mb db f s n := by
  obtain ⟨Dm, hDm, _⟩ := ho.map
  obtain ⟨Dd, hDd, _⟩ := ho.dots
  have rows : ∀ k b cs t, w.heap[b]? = some (.cells cs t (0, 0)) → t ≠ 34 → (g k).ownBlock ≠ some b := fun k b cs t hb hne e => by
    obtain ⟨rs, h1, _⟩ := ho.rows k
    obtain ⟨cs', h2⟩ := own_type h1 e
    rw [hb] at h2
    injection h2 with h2
    injection h2 with _ h2
    exact hne h2
  have rowm : ∀ k b es c, w.heap[b]? = some (.map es c) → (g k).ownBlock ≠ some b := fun k b es c hb e => by
    obtain ⟨rs, h1, _⟩ := ho.rows k
    obtain ⟨cs', h2⟩ := own_type h1 e
    rw [hb] at h2
    cases h2
  have keepm : ∀ {kt b nn R} {D : DataW Unit}, w.ownsMap Tryz.prog kt R b nn D → b ≠ m → b ≠ d → w'.ownsMap Tryz.prog kt R b nn D := fun {kt b nn R D} hD h1 h2 => by
    obtain ⟨es, c, hb⟩ := map_obj hD
    have e := ht.block b hD.lt h1 h2 (fun k => rowm k b es c hb)
    obtain ⟨es, clock, hb, F, hs, hD⟩ := hD
    exact ⟨es, clock, e.trans hb, F, hs, hD⟩
  refine ⟨?_, ?_, ?_, fun k => ?_, h.apart, h.ne⟩
  · obtain ⟨bv, h1, h2⟩ := h.box
    exact ⟨bv, (ht.block p (lt_of_heap h1) (cells_ne_map hDm h1) (cells_ne_map hDd h1) (fun k => rows k p _ _ h1 (by decide))).trans h1, intsT_keep h2 hk⟩
  · obtain ⟨D, h1, h2⟩ := h.dots
    exact ⟨D, keepm h1 n3 n4, h2⟩
  · obtain ⟨D, h1, h2⟩ := h.map
    exact ⟨D, keepm h1 n1 n2, h2⟩
  · obtain ⟨rs, h1, h2⟩ := h.rows k
    refine ⟨rs, owns_own h1 fun b hb => ?_, f2_keep h2 hk⟩
    obtain ⟨cs, hcs⟩ := own_type h1 hb
    exact ht.block b (lt_of_heap hcs) (cells_ne_map hDm hcs) (cells_ne_map hDd hcs) (fun k' => ha k k' b hb)
/-- w0: the world of the call. Two stores, and a row kv of one's own. -/
structure Two (w0 : World) (pa ma da na : Nat) (fa : ByteArray → Value) (sa : St) (pb mb db nb : Nat) (fb : ByteArray → Value) (sb : St) (kv : Value) (rows : List (List Value)) (m : Nat) (w : World) : Prop where
  va : VerAt w pa ma da fa sa na
  vb : VerAt w pb mb db fb sb nb
  n1 : ma ≠ mb
  n2 : ma ≠ db
  n3 : da ≠ mb
  n4 : da ≠ db
  m1 : w0.heap.size ≤ ma
  m2 : w0.heap.size ≤ da
  m3 : w0.heap.size ≤ mb
  m4 : w0.heap.size ≤ db
  apart : ∀ k k' b, (fa k).ownBlock = some b → (fb k').ownBlock ≠ some b
  la : ∀ k b, (fa k).ownBlock = some b → w0.heap.size ≤ b
  lb : ∀ k b, (fb k).ownBlock = some b → w0.heap.size ≤ b
  row : w.ownsRow w0.heap.size 34 3 kv m rows.flatten
  ra : ∀ k b, (fa k).ownBlock = some b → kv.ownBlock ≠ some b
  rb : ∀ k b, (fb k).ownBlock = some b → kv.ownBlock ≠ some b
  below : Below w0.heap.size w0 w
theorem Two.swap {w0 : World} {pa ma da na : Nat} {fa : ByteArray → Value} {sa : St} {pb mb db nb : Nat} {fb : ByteArray → Value} {sb : St} {kv : Value} {rows : List (List Value)} {m : Nat} {w : World} (h : Two w0 pa ma da na fa sa pb mb db nb fb sb kv rows m w) : Two w0 pb mb db nb fb sb pa ma da na fa sa kv rows m w :=
  ⟨h.vb, h.va, h.n1.symm, h.n3.symm, h.n2.symm, h.n4.symm, h.m3, h.m4, h.m1, h.m2, fun k k' b h1 h2 => h.apart k' k b h2 h1, h.lb, h.la, h.row, h.rb, h.ra, h.below⟩
theorem Two.moved {w0 : World} {pa ma da na : Nat} {fa : ByteArray → Value} {sa : St} {pb mb db nb : Nat} {fb : ByteArray → Value} {sb : St} {kv : Value} {rows : List (List Value)} {m : Nat} {w w' : World} (h : Two w0 pa ma da na fa sa pb mb db nb fb sb kv rows m w) (hb : Below w.heap.size w w') : Two w0 pa ma da na fa sa pb mb db nb fb sb kv rows m w' :=
  ⟨h.va.moved hb, h.vb.moved hb, h.n1, h.n2, h.n3, h.n4, h.m1, h.m2, h.m3, h.m4, h.apart, h.la, h.lb, owns_below h.row fun b _ hc => hb.block b (lt_of_heap hc), h.ra, h.rb, h.below.trans (hb.mono h.below.size)⟩
theorem Two.put {w0 : World} {pa ma da na na' : Nat} {fa fa' : ByteArray → Value} {sa sa' : St} {pb mb db nb : Nat} {fb : ByteArray → Value} {sb : St} {kv : Value} {rows : List (List Value)} {m : Nat} {w w' : World} (h : Two w0 pa ma da na fa sa pb mb db nb fb sb kv rows m w) (hV : VerAt w' pa ma da fa' sa' na') (ht : Turn w w' ma da fa fa') (hk : Keep3 w w') : Two w0 pa ma da na' fa' sa' pb mb db nb fb sb kv rows m w' := by
  have hs := h.below.size
  obtain ⟨Dm, hDm, _⟩ := h.va.map
  obtain ⟨Dd, hDd, _⟩ := h.va.dots
  refine ⟨hV, h.vb.turned ht hk h.va h.n1.symm h.n3.symm h.n2.symm h.n4.symm (fun k k' b h1 h2 => h.apart k' k b h2 h1), h.n1, h.n2, h.n3, h.n4, h.m1, h.m2, h.m3, h.m4, fun k k' b h1 h2 => ?_, fun k b h1 => ?_, h.lb, ?_, fun k b h1 h2 => ?_, h.rb, ?_⟩
  · rcases ht.fresh k b h1 with ⟨k2, h3⟩ | h3
    · exact h.apart k2 k' b h3 h2
    · have := h.vb.few k' h2; omega
  · rcases ht.fresh k b h1 with ⟨k2, h3⟩ | h3
    · exact h.la k2 b h3
    · omega
  · refine owns_own h.row fun b hb => ?_
    obtain ⟨cs, hcs⟩ := own_type h.row hb
    exact ht.block b (lt_of_heap hcs) (cells_ne_map hDm hcs) (cells_ne_map hDd hcs) (fun k e => h.ra k b e hb)
  · rcases ht.fresh k b h1 with ⟨k2, h3⟩ | h3
    · exact h.ra k2 b h3 h2
    · have := (h.row.lt b h2).2; omega
  · exact ⟨ht.os.trans h.below.os, ht.tape.trans h.below.tape, ht.output.trans h.below.output, Nat.le_trans hs ht.size, fun b hb => (ht.block b (by omega) (by have := h.m1; omega) (by have := h.m2; omega) (fun k e => by have := h.la k b e; omega)).trans (h.below.block b hb)⟩
/-- The row grows. -/
theorem Two.more {w0 : World} {pa ma da na : Nat} {fa : ByteArray → Value} {sa : St} {pb mb db nb : Nat} {fb : ByteArray → Value} {sb : St} {kv kv' : Value} {rows : List (List Value)} {r : List Value} {m : Nat} {w w' : World} (h : Two w0 pa ma da na fa sa pb mb db nb fb sb kv rows m w) (hg : w.grownBy w' kv.ownBlock) (hr : w'.ownsRow w0.heap.size 34 3 kv' (m + 1) (rows.flatten ++ r)) (hat : kv'.ownBlock = kv.ownBlock ∨ kv'.ownBlock = some w.heap.size) : Two w0 pa ma da na fa sa pb mb db nb fb sb kv' (rows ++ [r]) (m + 1) w' := by
  have hk := Keep3.grown h.row hg
  have hs := h.below.size
  have keepV : ∀ {p mb db n f s}, VerAt w p mb db f s n → (∀ k b, (f k).ownBlock = some b → kv.ownBlock ≠ some b) → VerAt w' p mb db f s n := fun {p mb db n f s} hv ha => by
    refine ⟨?_, ?_, ?_, fun k => ?_, hv.apart, hv.ne⟩
    · obtain ⟨bv, h1, h2⟩ := hv.box
      refine ⟨bv, (hg.block p (lt_of_heap h1) fun e => ?_).trans h1, intsT_keep h2 hk⟩
      obtain ⟨cs, hcs⟩ := own_type h.row e.symm
      rw [h1] at hcs
      injection hcs with hcs
      injection hcs with _ hcs
      cases hcs
    · obtain ⟨D, h1, h2⟩ := hv.dots
      exact ⟨D, h1.kept hg (fun e => by obtain ⟨cs, hcs⟩ := own_type h.row e.symm; exact cells_ne_map h1 hcs rfl), h2⟩
    · obtain ⟨D, h1, h2⟩ := hv.map
      exact ⟨D, h1.kept hg (fun e => by obtain ⟨cs, hcs⟩ := own_type h.row e.symm; exact cells_ne_map h1 hcs rfl), h2⟩
    · obtain ⟨rs, h1, h2⟩ := hv.rows k
      exact ⟨rs, owns_own h1 fun b hb => hg.block b (h1.lt b hb).2 (fun e => ha k b hb e.symm), f2_keep h2 hk⟩
  refine ⟨keepV h.va h.ra, keepV h.vb h.rb, h.n1, h.n2, h.n3, h.n4, h.m1, h.m2, h.m3, h.m4, h.apart, h.la, h.lb, by simpa using hr, fun k b h1 => ?_, fun k b h1 => ?_, ⟨hg.os.trans h.below.os, hg.tape.trans h.below.tape, hg.output.trans h.below.output, Nat.le_trans hs hg.size, fun b hb => (hg.block b (by omega) (fun e => by have := (h.row.lt b e.symm).1; omega)).trans (h.below.block b hb)⟩⟩
  · rcases hat with e | e
    · rw [e]; exact h.ra k b h1
    · rw [e]; intro e2; have := h.va.few k h1; have := Option.some.inj e2; omega
  · rcases hat with e | e
    · rw [e]; exact h.rb k b h1
    · rw [e]; intro e2; have := h.vb.few k h1; have := Option.some.inj e2; omega
/-- What Put hands back, whatever the commit. -/
def PutRes (s : St) (c : ComV) (p mb db n : Nat) (f : ByteArray → Value) (w : World) (e : Ending) (w' : World) : Prop :=
  (PutOk s c ∧ e = .returned .nilIface ∧ ∃ f', VerAt w' p mb db f' (putTo s c c.ops.length) (n + 24) ∧ Turn w w' mb db f f' ∧ Keep3 w w') ∨ (¬PutOk s c ∧ PutBad w e w')
theorem put_any (A : Nat → Addr) (B : Nat) (w : World) (hE : SentV A B w) (p mb db n nb : Nat) (f : ByteArray → Value) (s : St) (hV : VerAt w p mb db f s n) (hn : n ≤ 1000000) (hS : StOk s nb) (hrl : ∀ k, (rowOf s k).length ≤ 1000000)
    (c : ComV) (wv ov : Value) (hcT : ComT w [wv, .int .i64 c.place, ov] c) (hsm : SmallC c) :
    Calls Tryz.prog 9 #[.pointer (some ⟨p, 0, none⟩), .agg #[wv, .int .i64 c.place, ov]] w fun e w' => PutRes s c p mb db n f w e w' := by
  have h12 : 12 ≤ w.heap.size := by have := hE.gl; have := hE.size; omega
  have hT := hcT
  obtain ⟨wv', ov', he, hwT, hoT⟩ := hT
  injection he with e1 he
  injection he with _ he
  injection he with e2 _
  subst e1 e2
  by_cases h1 : (comErr c).1 = 0
  · have h1' := comErr_zero h1
    by_cases h2 : c.when_.length = s.base.length
    · cases h3 : leB c.when_ s.base with
      | true =>
        exact (put_old A w hE.e4 (hE.c8) h12 p mb db n f s hV c wv ov hwT.at hoT.at hsm.1 hsm.2.1 hsm.2.2 h1' h2 hS.base h3).mono fun e w' h => .inr ⟨(fun hp => by have := hp.old; rw [h3] at this; cases this), h⟩
      | false =>
        by_cases h4 : ∃ o ∈ c.ops, dotC c o ∈ s.dots
        · exact (put_exist A w hE.e4 (hE.c5) h12 p mb db n f s hV hrl c wv ov hcT hsm.2.2 h1' h2 h3 hS.base h4).mono fun e w' h => .inr ⟨(fun hp => by obtain ⟨o, ho, hd⟩ := h4; exact hp.new o ho hd), h⟩
        · have h5 : ∀ o ∈ c.ops, dotC c o ∉ s.dots := fun o ho hd => h4 ⟨o, ho, hd⟩
          exact (put_ok A w hE.e4 h12 p mb db n f s hV hn hrl c wv ov hcT hsm.2.2 h1' h2 h3 hS.base h5).mono fun e w' h => .inl ⟨⟨h1', h2, h3, h5⟩, h.nil, h.st⟩
    · exact (put_vec A w hE.e4 h12 p mb db n f s hV c wv ov hwT.at hoT.at hsm.1 hsm.2.1 hsm.2.2 h1' h2).mono fun e w' h => .inr ⟨fun hp => h2 hp.len, h⟩
  · exact (put_com A w hE.e4 h12 p c wv ov hwT.at hoT.at hsm.1 hsm.2.1 hsm.2.2 h1).mono fun e w' h => .inr ⟨fun hp => h1 (by rw [hp.err]), h⟩
end Go.Proofs.YtdnebclemngdcaaGreatDoor



namespace Go.Proofs.YtdnebclemngdcaaGreatDoor
open Go.RowKit Go.Sort Go.Maps
set_option maxRecDepth 100000
set_option linter.unusedSectionVars false
variable [Inhabited ComV] [DecidableEq D3] [Inhabited D3] [Inhabited Dd] [Inhabited Dn] [Inhabited OpV]

/-- A right commit's time at its place lies in memory. -/
theorem time_cell {w : World} {v : Value} {c : ComV} (h : IntsAt w v c.when_) (hc : ComOk c) : ∃ b o cap, v = .slice (some ⟨b, o, none⟩) c.when_.length cap ∧ w.cell? ⟨b, o + c.place.toNat, none⟩ = some (.int .i64 (timeC c)) ∧ 0 ≤ c.place ∧ c.place.toNat < c.when_.length := by
  have h1 := hc.lo
  have h2 := hc.hi
  obtain ⟨ad, cap, rfl, _, h⟩ := h
  rcases h with h | ⟨b, o, rfl, h⟩
  · rw [h] at h2; simp at h2; omega
  · exact ⟨b, o, cap, rfl, h _ (by omega), h1, by omega⟩
theorem turnC_none {l : List ComV} {order : List Int} {cut : Int} {i : Nat} (h : ¬(0 ≤ turnK order i ∧ turnK order i < l.length)) : turnC l order cut i = [] := if_neg h
theorem turnC_some {l : List ComV} {order : List Int} {cut : Int} {i z : Nat} (h : turnK order i = z) (hz : z < l.length) : turnC l order cut i = cutC cut l[z]! := by
  unfold turnC
  rw [h, if_pos ⟨by omega, by omega⟩, Int.toNat_natCast]
theorem cutC_one {cut : Int} {c : ComV} (h : ¬(0 < cut ∧ cut < c.ops.length)) : cutC cut c = [c] := if_neg h
theorem ComT.ops_at {w : World} {wv : Value} {p : Int} {x : Option Addr} {n y : Nat} {c : ComV} (h : ComT w [wv, .int .i64 p, .slice x n y] c) (hn : 0 < n) : ∃ b o, x = some ⟨b, o, none⟩ := by
  obtain ⟨wv', ov', he, _, rows, ⟨a2, c2, h2, _, _, h3⟩, hf⟩ := h
  injection he with _ e2
  injection e2 with _ e2
  injection e2 with e2
  rw [← e2] at h2
  injection h2 with e3 e4 _
  subst e3
  rcases h3 with h | ⟨b, o, _, h, _⟩
  · rw [h] at e4; simp at e4; omega
  · exact ⟨b, o, h⟩
theorem ComT.ops_cap {w : World} {wv : Value} {p : Int} {x : Option Addr} {n y : Nat} {c : ComV} (h : ComT w [wv, .int .i64 p, .slice x n y] c) : n ≤ y := by
  obtain ⟨wv', ov', he, _, rows, ⟨a2, c2, h2, _, h4, h3⟩, hf⟩ := h
  injection he with _ e2
  injection e2 with _ e2
  injection e2 with e2
  rw [← e2] at h2
  injection h2 with e3 e4 e5
  omega
theorem f2_drop {α β : Type} {R : α → β → Prop} : ∀ {l : List α} {m : List β} (s : Nat), F2 R l m → F2 R (l.drop s) (m.drop s)
  | _, _, 0, h => h
  | [], [], _ + 1, _ => trivial
  | _ :: _, _ :: _, s + 1, ⟨_, h⟩ => f2_drop s h
theorem f2_take {α β : Type} {R : α → β → Prop} : ∀ {l : List α} {m : List β} (s : Nat), F2 R l m → F2 R (l.take s) (m.take s)
  | _, _, 0, _ => trivial
  | [], [], _ + 1, _ => trivial
  | _ :: _, _ :: _, s + 1, ⟨h1, h⟩ => ⟨h1, f2_take s h⟩
theorem ComT.drop {w : World} {wv : Value} {p : Int} {b o n y : Nat} {zs : List Int} {os : List OpV} (h : ComT w [wv, .int .i64 p, .slice (some ⟨b, o, none⟩) n y] ⟨zs, p, os⟩) {s : Nat} (hs : s < n) : ComT w [wv, .int .i64 p, .slice (some ⟨b, o + s * 7, none⟩) (n - s) (y - s)] ⟨zs, p, os.drop s⟩ := by
  obtain ⟨wv', ov', he, h1, rows, h2, hf⟩ := h
  injection he with e1 e2
  injection e2 with _ e2
  injection e2 with e2
  subst e1 e2
  exact ⟨_, _, rfl, h1, rows.drop s, h2.drop hs, f2_drop s hf⟩
theorem ComT.take {w : World} {wv : Value} {p : Int} {b o n y : Nat} {zs : List Int} {os : List OpV} (h : ComT w [wv, .int .i64 p, .slice (some ⟨b, o, none⟩) n y] ⟨zs, p, os⟩) {s : Nat} (hs : s ≤ n) : ComT w [wv, .int .i64 p, .slice (some ⟨b, o, none⟩) s y] ⟨zs, p, os.take s⟩ := by
  obtain ⟨wv', ov', he, h1, rows, h2, hf⟩ := h
  injection he with e1 e2
  injection e2 with _ e2
  injection e2 with e2
  subst e1 e2
  exact ⟨_, _, rfl, h1, rows.take s, h2.take hs, f2_take s hf⟩
theorem turn_small {l : List ComV} {order : List Int} {cut : Int} {m : Nat} (h : ∀ c ∈ l, SmallC c) : ∀ c ∈ turnL l order cut m, SmallC c := fun x hx => by
  obtain ⟨c, hc, hx⟩ := turnL_mem hx
  obtain ⟨h1, _, s, n, h3, h4, _⟩ := cutC_mem hx
  have := h c hc
  refine ⟨by rw [h1]; exact this.1, by have := this.2.1; omega, fun o ho => this.2.2 o ?_⟩
  rw [h3] at ho
  exact List.mem_of_mem_drop (List.mem_of_mem_take ho)
theorem turn_step {w8 w3 w4 : World} {o : Obj} {l1 : List ComV} {d c : ComV} {rows : List (List Value)} {r r' : List Value} {v v4 : Value} {L : Nat} (h : OwnsInv w8 (l1 ++ [d]) v (rows ++ [r]) w3) (hc : ComT w3 r' c) (hL : L = l1.length) (hg : (w3.alloc o).grownBy w4 v.ownBlock) (hr : w4.ownsRow w8.heap.size 34 3 v4 (L + 1 + 1) (rows.flatten ++ r ++ r')) : OwnsInv w8 ((l1 ++ [d]) ++ [c]) v4 (rows ++ [r] ++ [r']) w4 := by
  refine (h.moved (below_alloc w3 o)).step (hc.kept (Keep3.of_below (below_alloc w3 o) (Nat.le_refl _))) hg ?_
  rw [List.length_append, List.length_singleton, ← hL, List.flatten_append]
  simpa using hr
theorem turn_meas {a q : Nat} (h : q < a) : a - (intOf (.int .i64 ((q : Int) + 1))).toNat < a - (intOf (.int .i64 (q : Int))).toNat := by simp [intOf]; omega
theorem run_field40 (a b : Int) (w : World) : (Instr.field 60 (.agg #[.int .i64 a, .int .i64 b]) 0).run Tryz.prog w = .ok (.int .i64 a) w := by kernel_rfl
theorem setA_len (ts : List ByteArray) : (setA ts).length ≤ ts.length := by
  unfold setA Lib.compact Lib.compactUpTo
  rw [List.length_map]
  refine Nat.le_trans (List.length_filter_le _ _) ?_
  rw [List.length_range, List.length_mergeSort, List.length_map]
  exact Nat.le_refl _
theorem set_few {key : ByteArray} {l : List ComV} {ds : List Dn} (h : IsOps key l ds) (hok : ∀ i, i < l.length → listBad l i = 0) (hl : l.length ≤ 1000) : (valA ds).set.length ≤ 1000000 := by
  have h1 := isOps_len h (fun c hc => ((listOk_com hok).1 c hc).few)
  have h2 : (valA ds).set.length ≤ ds.length := by
    unfold valA
    split
    · simp
    · split
      · simp
      · split
        · simp
        · refine Nat.le_trans (setA_len _) ?_
          rw [List.length_map]
          exact List.length_filter_le _ _
  omega
end Go.Proofs.YtdnebclemngdcaaGreatDoor
namespace Go.Proofs.YtdnebclemngdcaaGreatDoor
open Go.RowKit Go.Sort Go.Maps
set_option maxRecDepth 100000
set_option linter.unusedSectionVars false
variable [Inhabited ComV] [DecidableEq D3] [Inhabited D3] [Inhabited Dd] [Inhabited Dn] [Inhabited OpV]

theorem Two.start {w w2 w3 w4 : World} {pa ma da pb mb db nb : Nat} (hb2 : Below w.heap.size w w2) (ha1 : w2.heap.size ≤ ma) (ha2 : w2.heap.size ≤ da) (hva : VerAt w3 pa ma da (fun _ => .slice none 0 0) ⟨List.replicate nb 0, [], []⟩ 0) (hb3 : Below w2.heap.size w2 w3) (hm1 : w3.heap.size ≤ mb) (hm2 : w3.heap.size ≤ db) (hvb : VerAt w4 pb mb db (fun _ => .slice none 0 0) ⟨List.replicate nb 0, [], []⟩ 0) (hb4 : Below w3.heap.size w3 w4) :
    Two w pa ma da 0 (fun _ => .slice none 0 0) (stOf nb []) pb mb db 0 (fun _ => .slice none 0 0) (stOf nb []) (.slice none 0 0) [] 0 w4 := by
  have s2 := hb2.size
  have s3 := hb3.size
  have s4 := hb4.size
  obtain ⟨D, hD, _⟩ := hva.map
  obtain ⟨D', hD', _⟩ := hva.dots
  have l1 := hD.lt
  have l2 := hD'.lt
  have hb := (hb2.trans (hb3.mono s2)).trans (hb4.mono (Nat.le_trans s2 s3))
  exact ⟨hva.moved hb4, hvb, by omega, by omega, by omega, by omega, by omega, by omega, by omega, by omega, (fun _ _ _ h => by cases h), (fun _ _ h => by cases h), (fun _ _ h => by cases h), World.ownsRow_nil _ _ _ _, (fun _ _ h => by cases h), (fun _ _ h => by cases h), hb⟩
theorem f2_atR {α β : Type} [Inhabited β] {R : α → β → Prop} : ∀ {rows : List α} {l : List β} {k : Nat}, F2 R rows l → k < l.length → ∃ r, rows[k]? = some r ∧ R r l[k]!
  | [], [], _, _, hk => by simp at hk
  | [], _ :: _, _, h, _ => by cases h
  | _ :: _, [], _, h, _ => by cases h
  | x :: xs, c :: cs, 0, h, _ => ⟨x, rfl, h.1⟩
  | x :: xs, c :: cs, k + 1, h, hk => by
    obtain ⟨r, h1, h2⟩ := f2_atR (k := k) h.2 (by simpa using hk)
    exact ⟨r, by simpa using h1, by simpa using h2⟩
theorem f2_lenR {w : World} : ∀ {rows : List (List Value)} {l : List ComV}, F2 (ComRow w) rows l → ∀ r ∈ rows, r.length = 3
  | [], _, _, r, hr => by cases hr
  | x :: xs, [], h, _, _ => by cases h
  | x :: xs, c :: cs, h, r, hr => by
    obtain ⟨h1, h2⟩ := h
    rcases List.mem_cons.1 hr with rfl | hr
    · obtain ⟨wv, ov, e, _⟩ := h1
      rw [e]; rfl
    · exact f2_lenR h2 r hr
/-- A commit of the row. -/
theorem kept_at {w0 w : World} {base K K' : Nat} {va : Option Addr} {vc : Nat} {rows : List (List Value)} {l : List ComV} (h : w.ownsRow base 34 3 (.slice va K' vc) K rows.flatten) (hF : F2 (ComRow w0) rows l) {k : Nat} (hk : k < l.length) (hl : l.length = K) :
    ∃ b wv ov, va = some ⟨b, 0, none⟩ ∧ IntsAt w0 wv l[k]!.when_ ∧ OpsAt w0 ov l[k]!.ops ∧ w.cell? ⟨b, k * 3, none⟩ = some wv ∧ w.cell? ⟨b, k * 3 + 1, none⟩ = some (.int .i64 l[k]!.place) ∧ w.cell? ⟨b, k * 3 + 2, none⟩ = some ov := by
  subst hl
  obtain ⟨r, h1, wv, ov, e, hi, ho⟩ := f2_atR hF hk
  subst e
  obtain ⟨f0, f1, f2⟩ := flat3_at rows k _ _ _ (f2_lenR hF) h1
  rcases h.2 with ⟨_, h0⟩ | ⟨b, cap, cur, hv, _, hh, hc, _, hs, ht⟩
  · omega
  · have cell : ∀ i u, i < l.length * 3 → rows.flatten[i]? = some u → w.cell? ⟨b, i, none⟩ = some u := fun i u hi hu => by
      rw [← ht, List.getElem?_take, if_pos hi, Array.getElem?_toList] at hu
      simp only [World.cell?, hh]
      exact hu
    injection hv with hv _ _
    exact ⟨b, wv, ov, hv, hi, ho, cell _ _ (by omega) f0, cell _ _ (by omega) f1, cell _ _ (by omega) f2⟩
theorem turnAll_cons (cut : Int) (c : ComV) (l : List ComV) : turnAll cut (c :: l) = turnAll cut l ++ cutC cut c := by
  unfold turnAll
  rw [List.reverse_cons, List.flatMap_append]
  simp
theorem turnAll_split (cut : Int) (a b : List ComV) : turnAll cut (a ++ b) = turnAll cut b ++ turnAll cut a := by
  unfold turnAll
  rw [List.reverse_append, List.flatMap_append]
/-- What has its turn may be put. -/
theorem turn_here {nb : Nat} {kl : List ComV} (h : KeptL nb kl) (cut : Int) {z : Nat} (hz : z < kl.length) : ∃ post, KeptL nb (turnAll cut (kl.drop (z + 1)) ++ (cutC cut kl[z]! ++ post)) := by
  refine ⟨turnAll cut (kl.take z), ?_⟩
  have e : kl = kl.take z ++ (kl[z]! :: kl.drop (z + 1)) := by
    rw [getElem!_pos kl z hz, ← List.drop_eq_getElem_cons hz, List.take_append_drop]
  have := turnAll_kept h cut
  rw [e, turnAll_split, turnAll_cons, List.append_assoc] at this
  exact this
theorem small_part {cut : Int} {c x : ComV} (h : SmallC c) (hx : x ∈ cutC cut c) : SmallC x := by
  obtain ⟨h1, _, s, n, h3, h4, _⟩ := cutC_mem hx
  refine ⟨by rw [h1]; exact h.1, by have := h.2.1; omega, fun o ho => h.2.2 o ?_⟩
  rw [h3] at ho
  exact List.mem_of_mem_drop (List.mem_of_mem_take ho)
theorem turnAll_small {cut : Int} {l : List ComV} (h : ∀ c ∈ l, SmallC c) : ∀ x ∈ turnAll cut l, SmallC x := fun x hx => by
  obtain ⟨c, hc, hx⟩ := List.mem_flatMap.1 hx
  exact small_part (h c (List.mem_reverse.1 hc)) hx
theorem turnAll_len (cut : Int) : ∀ l : List ComV, (turnAll cut l).length ≤ 2 * l.length
  | [] => Nat.le_refl _
  | c :: l => by
    rw [turnAll_cons, List.length_append, List.length_cons]
    have := turnAll_len cut l
    have := cutC_len cut c
    omega
/-- Put of what may be put, into the second store. -/
theorem put_two (A : Nat → Addr) (B : Nat) {w : World} (hE : SentV A B w) {pa ma da na : Nat} {fa : ByteArray → Value} {sa : St} {pb mb db nbb : Nat} {fb : ByteArray → Value} {kv : Value} {rows : List (List Value)} {m nb : Nat} {wr : World} {pre post : List ComV} {x : ComV} (hT : Two w pa ma da na fa sa pb mb db nbb fb (stOf nb pre) kv rows m wr) (hK : KeptL nb (pre ++ x :: post)) (h1 : 1 ≤ nb) (h6 : nb ≤ 6) (hsm : ∀ c ∈ pre, SmallC c) (hx : SmallC x) (hpl : pre.length ≤ 80) (hn : nbb ≤ 1000000) (wv ov : Value) (hc : ComT wr [wv, .int .i64 x.place, ov] x) :
    Calls Tryz.prog 9 #[.pointer (some ⟨pb, 0, none⟩), .agg #[wv, .int .i64 x.place, ov]] wr fun e w' => e = .returned .nilIface ∧ Keep3 wr w' ∧ (∃ fb', Two w pa ma da na fa sa pb mb db (nbb + 24) fb' (stOf nb (pre ++ [x])) kv rows m w') ∧ ∀ (b : Nat) (cs : Array Value) (t : TypeId), wr.heap[b]? = some (.cells cs t (0, 0)) → (∀ k, (fb k).ownBlock ≠ some b) → w'.heap[b]? = wr.heap[b]? := by
  refine (put_any A B wr (hE.below (hT.below.mono hE.size)) pb mb db nbb nb fb (stOf nb pre) hT.vb hn (stOf_ok hK.init h1 h6 hsm) (fun q => by have := rowOf_few hK.init hpl q; omega) x wv ov hc hx).mono ?_
  rintro e w' (⟨_, rfl, f', hV, ht, hk⟩ | ⟨hnot, _⟩)
  · rw [stOf_put] at hV
    refine ⟨rfl, hk, ⟨f', (hT.swap.put hV ht hk).swap⟩, fun b cs t hb hne => ?_⟩
    obtain ⟨Dm, hDm, _⟩ := hT.vb.map
    obtain ⟨Dd, hDd, _⟩ := hT.vb.dots
    exact ht.block b (lt_of_heap hb) (cells_ne_map hDm hb) (cells_ne_map hDd hb) hne
  · exact absurd hK.put hnot
/-- May it be read? -/
def ReadOk (nb : Nat) (key : ByteArray) (at_ : List Int) : Prop := nameB key = true ∧ chk at_ = 0 ∧ at_.length = nb ∧ leB (List.replicate nb 0) at_ = true
theorem read_yes (A : Nat → Addr) (B : Nat) (w : World) (hE : SentV A B w) {p mb db n nb : Nat} {f : ByteArray → Value} {l : List ComV} (hV : VerAt w p mb db f (stOf nb l) n) (hK : KeptL nb l) (h1 : 1 ≤ nb) (h6 : nb ≤ 6) (hsm : ∀ c ∈ l, SmallC c) (hl : l.length ≤ 80) {key : ByteArray} {at_ : List Int} (hr : ReadOk nb key at_) (hk : key.size ≤ 60) (av : Value) (ha : IntsAt w av at_) :
    Calls Tryz.prog 14 #[.pointer (some ⟨p, 0, none⟩), .string key, av] w fun e w' => OfRet key (seenL (stOf nb l) key at_) w e w' :=
  read_ok A w hE.e4 (by have := hE.gl; have := hE.size; omega) p mb db n nb f (stOf nb l) hV (stOf_ok hK h1 h6 hsm) key hr.1 (by omega) av at_ ha hr.2.1 hr.2.2.1 hr.2.2.2 (rowOf_few hK hl key)
theorem read_no (A : Nat → Addr) (B : Nat) (w : World) (hE : SentV A B w) {p mb db n nb : Nat} {f : ByteArray → Value} {l : List ComV} (hV : VerAt w p mb db f (stOf nb l) n) (h1 : 1 ≤ nb) (h6 : nb ≤ 6) {key : ByteArray} {at_ : List Int} (hr : ¬ReadOk nb key at_) (hl : at_.length ≤ 20) (av : Value) (ha : IntsAt w av at_) :
    Calls Tryz.prog 14 #[.pointer (some ⟨p, 0, none⟩), .string key, av] w fun e w' => ReadBad w e w' := by
  have ha' := ha
  obtain ⟨aa, ac, rfl⟩ := ha.slice
  refine read_bad w p key aa at_.length ac fun W hW => ?_
  have hEW := hE.below (hW.mono hE.size)
  have hVW := hV.moved hW
  have haW := ha'.mono hW (Nat.le_refl _)
  have hbl : (stOf nb l).base.length = nb := by simp [stOf]
  cases hn : nameB key with
  | false => exact seen_name A W hEW.e5 p key hn _
  | true =>
    by_cases h2 : chk at_ = 0 ∧ at_.length = (stOf nb l).base.length
    · cases h3 : leB (stOf nb l).base at_ with
      | true => exact absurd ⟨hn, h2.1, h2.2.trans hbl, h3⟩ hr
      | false => exact seen_old A W hEW.e4 (hEW.c8) p mb db n f (stOf nb l) hVW (chk_zeros h1 h6) key hn _ at_ haW h2.1 h2.2 h3
    · exact seen_vec A W hEW.e4 p mb db n f (stOf nb l) hVW key hn _ at_ haW (by omega) h2
set_option maxHeartbeats 8000000 in
theorem parts_in (A : Nat → Addr) (B : Nat) (w : World) (hE : SentV A B w) (nb : Nat) (h1 : 1 ≤ nb) (h6 : nb ≤ 6) (lv : Value) (l : List ComV) (hl : ComsAt w lv l) (hh : heavyL l = false) (cut : Int) (key : ByteArray) (hkey : key.size ≤ 60) (av : Value) (at_ : List Int) (ha : IntsAt w av at_) (hal : at_.length ≤ 20) :
    Calls Tryz.prog 4 #[.int .i64 nb, lv, .int .i64 cut, .string key, av] w fun e w' => e = .returned (.bool true) ∧ Below w.heap.size w w' := by
  have h12 : 12 ≤ w.heap.size := by have := hE.gl; have := hE.size; omega
  have hk60 : ¬ 60 < (key.size : Int) := by omega
  have ha20 : ¬ 20 < (at_.length : Int) := by omega
  have HE := hid hE
  have HLV := hid hl
  have HA := hid ha
  have HH := hid hh
  have K6 := hid (stored_ok A w hE.e4 h12)
  have K7 := hid (fun W (hW : Below w.heap.size w W) => heavy_ok W lv l (hl.mono hW (Nat.le_refl _)))
  obtain ⟨la, lc, rfl, _⟩ := hl.shape
  obtain ⟨aa, ac, rfl⟩ := ha.slice
  obtain ⟨m, hm⟩ : ∃ m, m = l.length := ⟨_, rfl⟩
  obtain ⟨k, hk⟩ : ∃ k, k = at_.length := ⟨_, rfl⟩
  have HM := hid hm
  have HK := hid hk
  rw [← hm] at K7 HLV ⊢
  rw [← hk] at HA ha20 ⊢
  clear hE hl ha hh hm hk
  go_enter Tryz.func4, Tryz.ntmps4
  go_wp2_with fail
  refine K6.out.mono ?_
  rintro e w1 ⟨rfl, hb1⟩
  have B1 := hid hb1
  have K7a := hid (K7.out w1 hb1)
  clear hb1 K7 K6
  go_wp2_with fail
  refine K7a.out.mono ?_
  rintro e w2 ⟨he, hb2⟩
  rw [HH.out] at he
  subst he
  have hbw2 : Below w.heap.size w w2 := B1.out.trans (hb2.mono B1.out.size)
  have B2 := hid hbw2
  clear hb2 K7a
  have hnb1 : ¬ (nb : Int) < 1 := by omega
  go_wp2_with fail
  refine (new_ok w2 nb h1 h6).mono ?_
  rintro e w3 ⟨pa, ma, da, rfl, hpa, hma, hda, hva, hb3⟩
  go_wp2_with fail
  refine (new_ok w3 nb h1 h6).mono ?_
  rintro e w4 ⟨pb, mb, db, rfl, hpb, hmb, hdb, hvb, hb4⟩
  have T0 := hid (Two.start hbw2 hma hda hva hb3 hmb hdb hvb hb4)
  clear hpa hma hda hva hb3 hpb hmb hdb hvb hb4 hbw2
  obtain ⟨i28, hi28, hy0, hy1, hy2⟩ := info_parts Tryz.info28o
  have HLT := hid (light HH.out)
  have hm30 : m ≤ 30 := by rw [HM.out]; exact HLT.out.1
  go_wp2_with fail
  go_loopw [15, 16] (fun kvv iv wr => ∃ (i na : Nat) (kl : List ComV) (fa : ByteArray → Value) (rows : List (List Value)), i ≤ m ∧ iv = .int .i64 i ∧ kl.length ≤ i ∧ na ≤ 24 * i ∧ Hid (Two w pa ma da na fa (stOf nb kl) pb mb db 0 (fun _ => .slice none 0 0) (stOf nb []) kvv rows kl.length wr) ∧ Hid (KeptL nb kl) ∧ Hid (∀ c ∈ kl, c ∈ l) ∧ Hid (F2 (ComRow w) rows kl)) (fun _ i _ => m - (intOf i).toNat)
  case atStart => exact ⟨0, 0, [], _, [], Nat.zero_le _, rfl, Nat.le_refl _, Nat.le_refl _, T0, KeptL.nil _, (fun c h => by simp at h), trivial⟩
  case round =>
    obtain ⟨i, na, kl, fa, rows, hi, rfl, hkl, hna, TT, KK, KM, KF⟩ := hrel
    by_cases hlt : i < m
    · have hil : i < l.length := by rw [← HM.out]; exact hlt
      obtain ⟨la', lc', hle, _, _, ho⟩ := HLV.out.shape
      injection hle with ea em ec
      clear em
      subst ea
      subst ec
      obtain ⟨b, off, rfl, ho'⟩ := ho.resolve_left (fun h => by rw [h] at hil; simp at hil)
      obtain ⟨wv, ov, hwi, hop, q0, q1, q2⟩ := ho' i hil
      have hbl : b < w.heap.size := lt_of_cell q0
      have hmem : l[i]! ∈ l := by rw [getElem!_pos l i hil]; exact List.getElem_mem _
      have up : ∀ {a : Addr} {v : Value}, w.cell? a = some v → wr.cell? a = some v := fun {a v} h => by rw [TT.out.below.cell (lt_of_cell h)]; exact h
      have r0 := up q0
      have r1 := up q1
      have r2 := up q2
      obtain ⟨c, hce⟩ : ∃ c, c = l[i]! := ⟨_, rfl⟩
      rw [← hce] at r1 hmem hwi hop
      have hcl := HLT.out.2 c hmem
      have hsm : SmallC c := small_of_light HH.out c hmem
      have K10 := hid (ownCommit wr c wv ov (hwi.mono TT.out.below (Nat.le_refl _)) (hop.mono TT.out.below (Nat.le_refl _)) hcl.1 hcl.2.1 (fun o ho => (hcl.2.2 o ho).2.2))
      obtain ⟨a1, c1, rfl⟩ := hwi.slice
      obtain ⟨a2, c2, rfl, _⟩ := hop.shape
      have HCR : Hid (ComRow w [.slice a1 c.when_.length c1, .int .i64 c.place, .slice a2 c.ops.length c2] c) := (show ComRow _ _ _ from ⟨_, _, rfl, hwi, hop⟩)
      obtain ⟨n1, hn1⟩ : ∃ n1, n1 = c.when_.length := ⟨_, rfl⟩
      obtain ⟨n2, hn2⟩ : ∃ n2, n2 = c.ops.length := ⟨_, rfl⟩
      obtain ⟨pl, hpl⟩ : ∃ pl, pl = c.place := ⟨_, rfl⟩
      rw [← hn1, ← hn2, ← hpl] at K10 HCR
      rw [← hn1] at r0
      rw [← hn2] at r2
      rw [← hpl] at r1
      have HP := hid hpl
      have HSM := hid hsm
      have HMEM := hid hmem
      have hi1 : (i : Int) < (m : Int) := by omega
      clear q0 q1 q2 up hce hmem hwi hop hcl hsm ho ho' hil hn1 hn2 hpl
      go_wp2_with fail
      refine K10.out.mono ?_
      rintro e w5 ⟨wv5, ov5, rfl, hT5, hb5⟩
      have T5 := hid (TT.out.moved hb5)
      have hkl30 : kl.length ≤ 30 := by omega
      have K9 := hid (put_any A B w5 (HE.out.below (T5.out.below.mono HE.out.size)) pa ma da na nb fa (stOf nb kl) T5.out.va (by omega) (stOf_ok KK.out h1 h6 (fun x hx => small_of_light HH.out x (KM.out x hx))) (fun q => by have := rowOf_few KK.out (Nat.le_trans hkl30 (by decide)) q; omega) c wv5 ov5 hT5 HSM.out)
      obtain ⟨⟨x1, y1, ex⟩, x2, y2, ey⟩ := hT5.shape
      subst ex ey
      obtain ⟨m1, hm1⟩ : ∃ m1, m1 = c.when_.length := ⟨_, rfl⟩
      obtain ⟨m2, hm2⟩ : ∃ m2, m2 = c.ops.length := ⟨_, rfl⟩
      rw [← hm1, ← hm2] at K9 ⊢
      rw [← HP.out] at K9 ⊢
      clear hT5 hb5 K10 hm1 hm2
      go_wp2_with fail
      refine K9.out.mono ?_
      rintro e w6 hres
      rcases hres with ⟨hpok, rfl, f6, hV6, ht6, hk6⟩ | ⟨hnot, t, u, rfl, hb6⟩
      · have T6 := hid (T5.out.put hV6 ht6 hk6)
        have K6 := hid (KK.out.snoc hpok)
        have up6 : ∀ {a : Addr} {v : Value}, wr.cell? a = some v → a.block < w.heap.size → w6.cell? a = some v := fun {a v} h hlt => by
          rw [T6.out.below.cell hlt, ← TT.out.below.cell hlt]; exact h
        have e0 := up6 r0 hbl
        have e1 := up6 r1 hbl
        have e2 := up6 r2 hbl
        have hrow := T6.out.row
        obtain ⟨va, vc, hve⟩ := row_shape hrow
        rw [hve] at hrow T6 ⊢
        have hbs := T6.out.below.size
        clear hpok hV6 ht6 hk6 K9 r0 r1 r2 up6 hve
        go_wp2_with (at_builtin; refine wpList_append_own_at _ rfl _ _ 22 rfl w.heap.size 34 i28 _ 3 56 Tryz.underlying22 hi28 hy0 hy1 hy2 rfl (by decide) _ _ _ rfl (hrow.alloc _) ⟨w6.heap.size, 0, none⟩ 1 1 [.slice a1 n1 c1, .int .i64 pl, .slice a2 n2 c2] rfl rfl (cells3_new _ _ _) ?ho1 ?ho2 ?ho3 ?ho4 ?_; (case ho1 => exact one3v _ _ _ _ _ _ _ _ _ rfl rfl); (case ho2 => unfold maxLen; omega); (case ho3 => omega); (case ho4 => simp; omega); intro v9 w9 hown9 hgr9 _ hat9; have T9 := hid ((T6.out.moved (below_alloc _ _)).more hgr9 hown9 hat9); clear hown9 hgr9 hat9)
        refine ⟨⟨i + 1, na + 24, kl ++ [c], f6, rows ++ [[.slice a1 n1 c1, .int .i64 pl, .slice a2 n2 c2]], by omega, by go_num, by simp; omega, by omega, ?_, K6.out, ?_, ?_⟩, by simp [intOf]; omega⟩
        · show Two _ _ _ _ _ _ _ _ _ _ _ _ _ _ _ _ _
          rw [← stOf_put, List.length_append]
          exact T9.out
        · intro x hx
          rcases List.mem_append.1 hx with hx | hx
          · exact KM.out x hx
          · obtain rfl := List.mem_singleton.1 hx; exact HMEM.out
        · exact f2_append KF.out HCR.out
      · have T6 := hid (T5.out.moved hb6)
        clear hnot hb6 K9
        go_wp2_with fail
        exact ⟨⟨i + 1, na, kl, fa, rows, by omega, by go_num, by omega, by omega, T6, KK, KM, KF⟩, by simp [intOf]; omega⟩
    · obtain rfl : i = m := by omega
      obtain ⟨va, vc, hve⟩ := row_shape TT.out.row
      rw [hve] at TT ⊢
      obtain ⟨K, hK⟩ : ∃ K, K = kl.length := ⟨_, rfl⟩
      rw [← hK] at TT hkl ⊢
      have HKL := hid hK
      clear hve hK T0
      have wr1 : IntKind.i64.wrap ((K : Int) - 1) = (K : Int) - 1 := by simp [IntKind.wrap, IntKind.bits, IntKind.signed]; omega
      go_wp2_with fail
      go_loopw [17] (fun iv wr => ∃ (q nbb : Nat) (fb : ByteArray → Value), q ≤ K ∧ iv = .int .i64 ((q : Int) - 1) ∧ nbb ≤ 48 * (K - q) ∧ Hid (Two w pa ma da na fa (stOf nb kl) pb mb db nbb fb (stOf nb (turnAll cut (kl.drop q))) (.slice va K vc) rows K wr)) (fun i _ => (intOf i + 1).toNat)
      case atStart => exact ⟨K, 0, _, Nat.le_refl _, rfl, by omega, by rw [List.drop_of_length_le (by rw [HKL.out]; exact Nat.le_refl _)]; exact TT⟩
      case round =>
        obtain ⟨q, nbb, fb, hq, rfl, hnbb, T2⟩ := hrel
        cases q with
        | zero =>
          have T2' : Hid (Two w pa ma da na fa (stOf nb kl) pb mb db nbb fb (stOf nb (turnAll cut kl)) (.slice va K vc) rows K wr) := T2
          have hsml := fun x hx => small_of_light HH.out x (KM.out x hx)
          have HSA := hid hsml
          have HSB := hid (turnAll_small (cut := cut) hsml)
          have HKB := hid (turnAll_kept KK.out cut)
          have HLB : Hid ((turnAll cut kl).length ≤ 80) := (show _ ≤ _ from by have := turnAll_len cut kl; have := HKL.out; omega)
          have HLA : Hid (kl.length ≤ 80) := (show _ ≤ _ from by have := HKL.out; omega)
          have hzi : ((0 : Nat) : Int) - 1 = -1 := by omega
          have K13 := hid (fun W (hW : Below w.heap.size w W) => own_any W (.slice aa k ac) at_ (HA.out.mono hW (Nat.le_refl _)) (by omega))
          rw [hzi]
          clear hzi hsml T2
          go_wp2_with fail
          refine (K13.out wr T2'.out.below).mono ?_
          rintro e w5 ⟨v5, rfl, hi5, hb5⟩
          have T5 := hid (T2'.out.moved hb5)
          by_cases hr : ReadOk nb key at_
          · have K14 := hid (read_yes A B w5 (HE.out.below (T5.out.below.mono HE.out.size)) T5.out.va KK.out h1 h6 HSA.out HLA.out hr hkey v5 hi5)
            obtain ⟨a5, c5, rfl⟩ := hi5.slice
            clear hi5 hb5
            go_wp2_with fail
            refine K14.out.mono ?_
            rintro e w6 ⟨v6, ds6, rfl, hI6, hva6, hb6⟩
            have T6 := hid (T5.out.moved hb6)
            have I6 := hid hI6
            have HFEW := hid (set_few hI6 (listOk_of (n := nb) (fun c hc => (stOf_ok KK.out h1 h6 HSA.out).ok c (seenL_mem hc)) (fun c hc => (stOf_ok KK.out h1 h6 HSA.out).when_ c (seenL_mem hc))) (by have h1' := seenL_len (stOf nb kl) key at_; have h2' := rowOf_few KK.out HLA.out key; omega))
            obtain ⟨xv, hxv⟩ : ∃ xv, xv = valA ds6 := ⟨_, rfl⟩
            rw [← hxv] at hva6
            have HXV := hid hxv
            obtain ⟨xk, xt, xn, xs⟩ := xv
            obtain ⟨sv6, hve, hs6⟩ := hva6
            simp only at hve hs6
            subst hve
            have S6 := hid hs6
            obtain ⟨sa, sc, hsv, _⟩ := hs6
            subst hsv
            obtain ⟨xl, hxl⟩ : ∃ xl, xl = xs.length := ⟨_, rfl⟩
            rw [← hxl] at S6 ⊢
            have HXL := hid hxl
            clear hI6 hxv hb6 K14 hxl
            obtain ⟨w7, hw7⟩ : ∃ w7, w7 = w6.alloc (.cells #[.int .i64 xk, .string xt, .int .i64 xn, .slice sa xl sc] 41) := ⟨_, rfl⟩
            have hb67 : Below w6.heap.size w6 w7 := by rw [hw7]; exact below_alloc _ _
            have x7 : w7.heap[w6.heap.size]? = some (.cells #[.int .i64 xk, .string xt, .int .i64 xn, .slice sa xl sc] 41 (0, 0)) := by rw [hw7]; exact (MapKept.heap_alloc _ _).1
            have T7 := hid (T6.out.moved hb67)
            go_wp2_with fail
            rw [← hw7]
            refine (K13.out w7 T7.out.below).mono ?_
            rintro e w8 ⟨v8, rfl, hi8, hb8⟩
            have T8 := hid (T7.out.moved hb8)
            have K14 := hid (read_yes A B w8 (HE.out.below (T8.out.below.mono HE.out.size)) T8.out.vb HKB.out h1 h6 HSB.out HLB.out hr hkey v8 hi8)
            obtain ⟨a8, c8, rfl⟩ := hi8.slice
            have x8 : w8.heap[w6.heap.size]? = some (.cells #[.int .i64 xk, .string xt, .int .i64 xn, .slice sa xl sc] 41 (0, 0)) := (hb8.block _ (lt_of_heap x7)).trans x7
            have hb68 := hb67.trans (hb8.mono hb67.size)
            clear hi8 hb8 hw7 x7 hb67
            go_wp2_with fail
            refine K14.out.mono ?_
            rintro e w9 ⟨v9, ds9, rfl, hI9, hva9, hb9⟩
            have hds : ds9 = ds6 := ops_turned KK.out cut key at_ I6.out hI9
            rw [hds, ← HXV.out] at hva9
            obtain ⟨sv9, hve, hs9⟩ := hva9
            simp only at hve hs9
            subst hve
            have T9 := hid (T8.out.moved hb9)
            have x9 : w9.heap[w6.heap.size]? = some (.cells #[.int .i64 xk, .string xt, .int .i64 xn, .slice sa xl sc] 41 (0, 0)) := (hb9.block _ (lt_of_heap x8)).trans x8
            have S9 := hid hs9
            obtain ⟨ta, tc, hsv, _⟩ := hs9
            subst hsv
            rw [← HXL.out] at S9 ⊢
            have hb69 := hb68.trans (hb9.mono hb68.size)
            have S69 := hid (S6.out.mono hb69 (Nat.le_refl _))
            have z0 : w9.cell? ⟨w6.heap.size, 0, none⟩ = some (.int .i64 xk) := by simp only [World.cell?, x9]; rfl
            have z1 : w9.cell? ⟨w6.heap.size, 1, none⟩ = some (.string xt) := by simp only [World.cell?, x9]; rfl
            have z2 : w9.cell? ⟨w6.heap.size, 2, none⟩ = some (.int .i64 xn) := by simp only [World.cell?, x9]; rfl
            have z3 : w9.cell? ⟨w6.heap.size, 3, none⟩ = some (.slice sa xl sc) := by simp only [World.cell?, x9]; rfl
            have z0a := fun o => cell_alloc z0 o
            have z1a := fun o => cell_alloc z1 o
            have z2a := fun o => cell_alloc z2 o
            have z3a := fun o => cell_alloc z3 o
            clear hI9 hds hb9 x8 x9 hb68 hb69 K14
            go_wp2_with fail
            have hfew : xs.length ≤ 1000000 := by have := HFEW.out; rw [← HXV.out] at this; exact this
            obtain ⟨w10, hw10⟩ : ∃ w10, w10 = w9.alloc (.cells #[.int .i64 xk, .string xt, .int .i64 xn, .slice ta xl tc] 41) := ⟨_, rfl⟩
            have hb910 : Below w9.heap.size w9 w10 := by rw [hw10]; exact below_alloc _ _
            rw [← hw10]
            have K17 := hid (sameValue_same w10 xk xt xn (.slice sa xl sc) (.slice ta xl tc) xs (S69.out.mono hb910 (Nat.le_refl _)) (S9.out.mono hb910 (Nat.le_refl _)) hfew)
            have T10 := hid (T9.out.moved hb910)
            clear hw10 hb910 z0 z1 z2 z3 z0a z1a z2a z3a
            refine K17.out.mono ?_
            rintro e w11 ⟨rfl, hb11⟩
            have T11 := hid (T10.out.moved hb11)
            clear hb11 K17
            go_wp2_with fail
            refine (keys_ok w11 pa ma da na fa (stOf nb kl) T11.out.va (by omega)).mono ?_
            rintro e w12 ⟨v12, ss12, rfl, hk12, hs12, hl12, hb12⟩
            have T12 := hid (T11.out.moved hb12)
            obtain ⟨a12, c12, hv12⟩ : ∃ a12 c12, v12 = .slice a12 ss12.length c12 := by obtain ⟨a, c, h, _⟩ := hs12; exact ⟨a, c, h⟩
            subst hv12
            go_wp2_with fail
            refine (keys_ok w12 pb mb db nbb fb (stOf nb (turnAll cut kl)) T12.out.vb (by omega)).mono ?_
            rintro e w13 ⟨v13, ss13, rfl, hk13, hs13, hl13, hb13⟩
            have T13 := hid (T12.out.moved hb13)
            have hss : ss12 = ss13 := keysOfSt_one hk12 hk13 (fun q => by
              have hp := rowOf_perm nb kl cut q
              constructor
              · intro h e; rw [e] at hp; exact h hp.symm.eq_nil
              · intro h e; rw [e] at hp; exact h hp.eq_nil)
            subst hss
            have K18 := hid (sameTexts_same w13 _ v13 ss12 (hs12.mono hb13 (Nat.le_refl _)) hs13 hl12)
            obtain ⟨a13, c13, hv13⟩ : ∃ a13 c13, v13 = .slice a13 ss12.length c13 := by obtain ⟨a, c, h, _⟩ := hs13; exact ⟨a, c, h⟩
            subst hv13
            clear hk12 hk13 hs12 hs13 hb12 hb13
            go_wp2_with fail
            refine K18.out.mono ?_
            rintro e w14 ⟨rfl, q14, hq14⟩
            have B14 : Hid (Below w.heap.size w w14) := (show Below _ _ _ from by rw [hq14]; exact below_draws T13.out.below q14)
            clear hq14 K18
            go_wp2_with fail
            go_ret
            exact ⟨rfl, B14.out⟩
          · have K14 := hid (read_no A B w5 (HE.out.below (T5.out.below.mono HE.out.size)) T5.out.va h1 h6 hr hal v5 hi5)
            obtain ⟨a5, c5, rfl⟩ := hi5.slice
            clear hi5 hb5
            go_wp2_with fail
            refine K14.out.mono ?_
            rintro e w6 ⟨t6, u6, rfl, hb6⟩
            have T6 := hid (T5.out.moved hb6)
            obtain ⟨w7, hw7⟩ : ∃ w7, w7 = w6.alloc (.cells #[.int .i64 0, .string ⟨#[]⟩, .int .i64 0, .slice none 0 0] 41) := ⟨_, rfl⟩
            have hb67 : Below w6.heap.size w6 w7 := by rw [hw7]; exact below_alloc _ _
            have T7 := hid (T6.out.moved hb67)
            clear hb6 hb67 K14
            go_wp2_with fail
            rw [← hw7]
            refine (K13.out w7 T7.out.below).mono ?_
            rintro e w8 ⟨v8, rfl, hi8, hb8⟩
            have T8 := hid (T7.out.moved hb8)
            have K14 := hid (read_no A B w8 (HE.out.below (T8.out.below.mono HE.out.size)) T8.out.vb h1 h6 hr hal v8 hi8)
            obtain ⟨a8, c8, rfl⟩ := hi8.slice
            clear hi8 hb8 hw7
            go_wp2_with fail
            refine K14.out.mono ?_
            rintro e w9 ⟨t9, u9, rfl, hb9⟩
            have T9 := hid (T8.out.moved hb9)
            have hb910 := below_alloc w9 (.cells #[.int .i64 0, .string ⟨#[]⟩, .int .i64 0, .slice none 0 0] 41)
            have B10 := hid (T9.out.moved hb910).below
            clear hb9 K14 hb910
            go_wp2_with fail
            go_ret
            exact ⟨rfl, B10.out⟩
        | succ z =>
          have hzk : z < kl.length := by rw [← HKL.out]; omega
          obtain ⟨b, wv, ov, hva, hwi, hop, q0, q1, q2⟩ := kept_at T2.out.row KF.out hzk HKL.out.symm
          subst hva
          have hmem : kl[z]! ∈ kl := by rw [getElem!_pos kl z hzk]; exact List.getElem_mem _
          obtain ⟨post, hpost⟩ := turn_here KK.out cut hzk
          have hdrop : kl.drop z = kl[z]! :: kl.drop (z + 1) := by rw [getElem!_pos kl z hzk, ← List.drop_eq_getElem_cons hzk]
          obtain ⟨c, hce⟩ : ∃ c, c = kl[z]! := ⟨_, rfl⟩
          rw [← hce] at q1 hmem hwi hop hpost hdrop
          have hcl := HLT.out.2 c (KM.out c hmem)
          have hsm : SmallC c := small_of_light HH.out c (KM.out c hmem)
          have K10 := hid (fun W (hW : Below w.heap.size w W) => ownCommit W c wv ov (hwi.mono hW (Nat.le_refl _)) (hop.mono hW (Nat.le_refl _)) hcl.1 hcl.2.1 (fun o ho => (hcl.2.2 o ho).2.2))
          obtain ⟨a1, c1, rfl⟩ := hwi.slice
          obtain ⟨a2, c2, rfl, _⟩ := hop.shape
          obtain ⟨n1, hn1⟩ : ∃ n1, n1 = c.when_.length := ⟨_, rfl⟩
          obtain ⟨n2, hn2⟩ : ∃ n2, n2 = c.ops.length := ⟨_, rfl⟩
          obtain ⟨pl, hpl⟩ : ∃ pl, pl = c.place := ⟨_, rfl⟩
          rw [← hn1, ← hn2] at K10
          rw [← hpl] at K10 q1
          rw [← hn1] at q0
          rw [← hn2] at q2
          have HP := hid hpl
          have HN2 := hid hn2
          have HSM := hid hsm
          have HDR := hid hdrop
          have HPO := hid hpost
          have hzi : ((z + 1 : Nat) : Int) - 1 = (z : Int) := by omega
          have hz1 : 0 ≤ (z : Int) := by omega
          have wr2 : IntKind.i64.wrap ((z : Int) - 1) = (z : Int) - 1 := by simp [IntKind.wrap, IntKind.bits, IntKind.signed]; omega
          have hz2 : (z : Int) < (K : Int) := by omega
          have HZK := hid hzk
          rw [hzi]
          clear hce hmem hwi hop hcl hsm hn1 hn2 hpl hdrop hpost hzi hzk
          go_wp2_with fail
          refine (K10.out wr T2.out.below).mono ?_
          rintro e w5 ⟨wv5, ov5, rfl, hT5, hb5⟩
          have T5 := hid (T2.out.moved hb5)
          have HT5 := hid hT5
          obtain ⟨⟨x1, y1, ex⟩, x2, y2, ey⟩ := hT5.shape
          subst ex ey
          obtain ⟨m1, hm1⟩ : ∃ m1, m1 = c.when_.length := ⟨_, rfl⟩
          rw [← hm1] at HT5 ⊢
          rw [← HN2.out] at HT5 ⊢
          rw [← HP.out] at HT5 ⊢
          have hsml := fun x hx => small_of_light HH.out x (KM.out x hx)
          have HPS := hid (turnAll_small (cut := cut) (l := kl.drop (z + 1)) (fun x hx => hsml x (List.mem_of_mem_drop hx)))
          have HPL : Hid ((turnAll cut (kl.drop (z + 1))).length ≤ 80) := (show _ ≤ _ from by have := turnAll_len cut (kl.drop (z + 1)); rw [List.length_drop] at this; have := HKL.out; omega)
          obtain ⟨w6, hw6⟩ : ∃ w6, w6 = w5.alloc (.cells #[.slice x1 m1 y1, .int .i64 pl, .slice x2 n2 y2] 34) := ⟨_, rfl⟩
          have hb56 : Below w5.heap.size w5 w6 := by rw [hw6]; exact below_alloc _ _
          have x6 : w6.heap[w5.heap.size]? = some (.cells #[.slice x1 m1 y1, .int .i64 pl, .slice x2 n2 y2] 34 (0, 0)) := by rw [hw6]; exact (MapKept.heap_alloc _ _).1
          have T6 := hid (T5.out.moved hb56)
          have HC6 := hid (HT5.out.kept (Keep3.of_below hb56 (Nat.le_refl _)))
          have P0 : Hid (w5.cell? ⟨b, z * 3, none⟩ = some (.slice a1 n1 c1)) := (show _ = _ from by rw [hb5.cell (lt_of_cell q0)]; exact q0)
          have P1 : Hid (w5.cell? ⟨b, z * 3 + 1, none⟩ = some (.int .i64 pl)) := (show _ = _ from by rw [hb5.cell (lt_of_cell q1)]; exact q1)
          have P2 : Hid (w5.cell? ⟨b, z * 3 + 2, none⟩ = some (.slice a2 n2 c2)) := (show _ = _ from by rw [hb5.cell (lt_of_cell q2)]; exact q2)
          clear hT5 hb5 hm1 hsml q0 q1 q2
          by_cases hcut : 0 < cut ∧ cut < (n2 : Int)
          · obtain ⟨ct, rfl⟩ : ∃ ct : Nat, cut = ct := ⟨cut.toNat, by omega⟩
            have hct : ct < n2 := by omega
            have hc0 : 0 < (ct : Int) := by omega
            have hc1 : (ct : Int) < (n2 : Int) := by omega
            obtain ⟨b4, o4, hx4⟩ := HC6.out.ops_at (by omega)
            subst hx4
            have hy4 : n2 ≤ y2 := HC6.out.ops_cap
            have d0 : w6.cell? ⟨w5.heap.size, 0, none⟩ = some (.slice x1 m1 y1) := by simp only [World.cell?, x6]; rfl
            have d1 : w6.cell? ⟨w5.heap.size, 1, none⟩ = some (.int .i64 pl) := by simp only [World.cell?, x6]; rfl
            have d2 : w6.cell? ⟨w5.heap.size, 2, none⟩ = some (.slice (some ⟨b4, o4, none⟩) n2 y2) := by simp only [World.cell?, x6]; rfl
            have X6 := hid x6
            have B56 := hid hb56
            have g0 := fun o => cell_alloc P0.out o
            have g1 := fun o => cell_alloc P1.out o
            have g2 := fun o => cell_alloc P2.out o
            clear hcut x6 hb56
            go_wp2_with fail
            rw [← hw6]
            refine (K10.out w6 T6.out.below).mono ?_
            rintro e w7 ⟨wv7, ov7, rfl, hT7, hb7⟩
            have HT7 := hid hT7
            obtain ⟨⟨x3, y3, ex⟩, x4, y4, ey⟩ := hT7.shape
            subst ex ey
            obtain ⟨m3, hm3⟩ : ∃ m3, m3 = c.when_.length := ⟨_, rfl⟩
            rw [← hm3] at HT7 ⊢
            rw [← HN2.out] at HT7 ⊢
            rw [← HP.out] at HT7 ⊢
            obtain ⟨b5, o5, hx5⟩ := HT7.out.ops_at (by omega)
            subst hx5
            have hy5 : n2 ≤ y4 := HT7.out.ops_cap
            have hb57 := B56.out.trans (hb7.mono B56.out.size)
            have x7 : w7.heap[w5.heap.size]? = some (.cells #[.slice x1 m1 y1, .int .i64 pl, .slice (some ⟨b4, o4, none⟩) n2 y2] 34 (0, 0)) := (hb7.block _ (lt_of_heap X6.out)).trans X6.out
            have X7 := hid x7
            have B57 := hid hb57
            have e0 : w7.cell? ⟨w5.heap.size, 0, none⟩ = some (.slice x1 m1 y1) := by simp only [World.cell?, x7]; rfl
            have e1 : w7.cell? ⟨w5.heap.size, 1, none⟩ = some (.int .i64 pl) := by simp only [World.cell?, x7]; rfl
            have e2 : w7.cell? ⟨w5.heap.size, 2, none⟩ = some (.slice (some ⟨b4, o4, none⟩) n2 y2) := by simp only [World.cell?, x7]; rfl
            have f2 : w7.frozen? ⟨w5.heap.size, 2, none⟩ = false := by simp [World.frozen?, x7]
            have hne : w5.heap.size ≠ w7.heap.size := Nat.ne_of_lt (lt_of_heap x7)
            have e2a := fun o => cell_alloc e2 o
            have f2a : ∀ o, (w7.alloc o).frozen? ⟨w5.heap.size, 2, none⟩ = false := fun o => by
              have h7 : (w7.alloc o).heap[w5.heap.size]? = some (.cells #[.slice x1 m1 y1, .int .i64 pl, .slice (some ⟨b4, o4, none⟩) n2 y2] 34 (0, 0)) := ((MapKept.heap_alloc w7 o).2 _ (lt_of_heap x7)).trans x7
              simp [World.frozen?, h7]
            have hct' : ct ≤ n2 := Nat.le_of_lt hct
            have hct3 : (ct : Int) ≤ (n2 : Int) := by omega
            have hct4 : (ct : Int) ≤ (y2 : Int) := by omega
            have hct5 : (n2 : Int) ≤ (y4 : Int) := by omega
            clear hT7 hb7 hm3 x7 hb57 d0 d1 d2 g0 g1 g2 hw6
            go_wp2_with fail
            obtain ⟨w8, hw8⟩ : ∃ w8, w8 = w7.alloc (.cells #[.slice x3 m3 y3, .int .i64 pl, .slice (some ⟨b5, o5 + ct * 7, none⟩) (n2 - ct) (y4 - ct)] 34) := ⟨_, rfl⟩
            have hb78 : Below w7.heap.size w7 w8 := by rw [hw8]; exact below_alloc _ _
            have x8 : w8.heap[w5.heap.size]? = some (.cells #[.slice x1 m1 y1, .int .i64 pl, .slice (some ⟨b4, o4, none⟩) n2 y2] 34 (0, 0)) := (hb78.block _ (lt_of_heap X7.out)).trans X7.out
            have hb58 := B57.out.trans (hb78.mono B57.out.size)
            rw [← hw8]
            obtain ⟨w9, hw9⟩ : ∃ w9, w9 = w8.setCell ⟨w5.heap.size, 2, none⟩ (.slice (some ⟨b4, o4, none⟩) ct y2) := ⟨_, rfl⟩
            have hb59 : Below w5.heap.size w5 w9 := by rw [hw9]; exact hb58.setCell (Nat.le_refl _) _
            have x9 : w9.heap[w5.heap.size]? = some (.cells #[.slice x1 m1 y1, .int .i64 pl, .slice (some ⟨b4, o4, none⟩) ct y2] 34 (0, 0)) := by rw [hw9, heap_set x8]; rfl
            have hk79 : Keep3 w7 w9 := by
              have h1 : Keep3 w7 w8 := Keep3.of_below hb78 (Nat.le_refl _)
              rw [hw9]
              exact h1.trans ⟨keepT_set x8 (by decide) _ _, keepT_set x8 (by decide) _ _, keepT_set x8 (by decide) _ _⟩
            rw [← hw9]
            have hk69 : Keep3 w5 w9 := Keep3.of_below hb59 (Nat.le_refl _)
            have T9 := hid (T5.out.moved hb59)
            have hcz : c = ⟨c.when_, pl, c.ops⟩ := by rw [HP.out]
            have HD9 : Hid (ComT w9 [.slice x3 m3 y3, .int .i64 pl, .slice (some ⟨b5, o5 + ct * 7, none⟩) (n2 - ct) (y4 - ct)] ⟨c.when_, pl, c.ops.drop ct⟩) := (show ComT _ _ _ from ComT.drop (by rw [← hcz]; exact HT7.out.kept hk79) hct)
            have HT9 : Hid (ComT w9 [.slice x1 m1 y1, .int .i64 pl, .slice (some ⟨b4, o4, none⟩) ct y2] ⟨c.when_, pl, c.ops.take ct⟩) := (show ComT _ _ _ from ComT.take (by rw [← hcz]; exact HT5.out.kept hk69) (Nat.le_of_lt hct))
            have hcc : cutC (ct : Int) c = [⟨c.when_, pl, c.ops.drop ct⟩, ⟨c.when_, pl, c.ops.take ct⟩] := by
              unfold cutC
              rw [if_pos ⟨hc0, by rw [← HN2.out]; exact hc1⟩, Int.toNat_natCast, HP.out]
            have hpo := HPO.out
            rw [hcc] at hpo
            have hs1 : SmallC ⟨c.when_, pl, c.ops.drop ct⟩ := small_part HSM.out (cut := ct) (by rw [hcc]; simp)
            have hs2 : SmallC ⟨c.when_, pl, c.ops.take ct⟩ := small_part HSM.out (cut := ct) (by rw [hcc]; simp)
            have K9 := hid (put_two A B HE.out T9.out hpo h1 h6 HPS.out hs1 HPL.out (by omega) _ _ HD9.out)
            have HPO2 : Hid (KeptL nb ((turnAll ct (kl.drop (z + 1)) ++ [⟨c.when_, pl, c.ops.drop ct⟩]) ++ ⟨c.when_, pl, c.ops.take ct⟩ :: post)) := (show KeptL _ _ from by simpa using hpo)
            have HCC := hid hcc
            have HS2 := hid hs2
            have HS1 := hid hs1
            have X9 := hid x9
            clear hb78 x8 hb58 hw8 hw9 hb59 x9 hk79 hk69 hcz hcc hpo hs1 hs2 e0 e1 e2 f2 e2a f2a
            refine K9.out.mono ?_
            rintro e w10 ⟨rfl, hk10, ⟨fb10, hT10⟩, hkeep10⟩
            have x10 : w10.heap[w5.heap.size]? = some (.cells #[.slice x1 m1 y1, .int .i64 pl, .slice (some ⟨b4, o4, none⟩) ct y2] 34 (0, 0)) := (hkeep10 _ _ _ X9.out (fun k e => by have := T5.out.vb.few k e; omega)).trans X9.out
            have r0 : w10.cell? ⟨w5.heap.size, 0, none⟩ = some (.slice x1 m1 y1) := by simp only [World.cell?, x10]; rfl
            have r1 : w10.cell? ⟨w5.heap.size, 1, none⟩ = some (.int .i64 pl) := by simp only [World.cell?, x10]; rfl
            have r2 : w10.cell? ⟨w5.heap.size, 2, none⟩ = some (.slice (some ⟨b4, o4, none⟩) ct y2) := by simp only [World.cell?, x10]; rfl
            have K11 := hid (put_two A B HE.out hT10 HPO2.out h1 h6 (fun x hx => by rcases List.mem_append.1 hx with hx | hx; exact HPS.out x hx; obtain rfl := List.mem_singleton.1 hx; exact HS1.out) HS2.out (by have := turnAll_len ct (kl.drop (z + 1)); rw [List.length_drop] at this; have := HKL.out; simp; omega) (by omega) _ _ (HT9.out.kept hk10))
            clear hk10 hT10 hkeep10 x10 K9
            go_wp2_with fail
            refine K11.out.mono ?_
            rintro e w11 ⟨rfl, _, ⟨fb11, hT11⟩, _⟩
            have T11 := hid hT11
            clear hT11 K11 r0 r1 r2
            go_wp2_with fail
            refine ⟨⟨z, nbb + 48, fb11, by omega, by go_num, by omega, ?_⟩, by simp [intOf]⟩
            show Two _ _ _ _ _ _ _ _ _ _ _ _ _ _ _ _ _
            rw [HDR.out, turnAll_cons, HCC.out, List.append_cons]
            exact T11.out
          · have hone : cutC cut c = [c] := cutC_one (by rw [← HN2.out]; exact hcut)
            have hpo := HPO.out
            rw [hone] at hpo
            have K9 := hid (put_two A B HE.out T6.out hpo h1 h6 HPS.out HSM.out HPL.out (by omega) _ _ (by rw [← HP.out]; exact HC6.out))
            rw [← HP.out] at K9
            have d0 : w6.cell? ⟨w5.heap.size, 0, none⟩ = some (.slice x1 m1 y1) := by simp only [World.cell?, x6]; rfl
            have d1 : w6.cell? ⟨w5.heap.size, 1, none⟩ = some (.int .i64 pl) := by simp only [World.cell?, x6]; rfl
            have d2 : w6.cell? ⟨w5.heap.size, 2, none⟩ = some (.slice x2 n2 y2) := by simp only [World.cell?, x6]; rfl
            have HONE := hid hone
            clear hone hpo x6 hb56
            by_cases hc0 : 0 < cut
            · have hc1 : ¬ cut < (n2 : Int) := fun h => hcut ⟨hc0, h⟩
              clear hcut
              go_wp2_with fail
              rw [← hw6]
              refine K9.out.mono ?_
              rintro e w7 ⟨rfl, _, ⟨fb7, hT7⟩, _⟩
              have T7 := hid hT7
              clear hT7 K9 d0 d1 d2 hw6
              go_wp2_with fail
              refine ⟨⟨z, nbb + 24, fb7, by omega, by go_num, by omega, ?_⟩, by simp [intOf]⟩
              show Two _ _ _ _ _ _ _ _ _ _ _ _ _ _ _ _ _
              rw [HDR.out, turnAll_cons, HONE.out]
              exact T7.out
            · clear hcut
              go_wp2_with fail
              rw [← hw6]
              refine K9.out.mono ?_
              rintro e w7 ⟨rfl, _, ⟨fb7, hT7⟩, _⟩
              have T7 := hid hT7
              clear hT7 K9 d0 d1 d2 hw6
              go_wp2_with fail
              refine ⟨⟨z, nbb + 24, fb7, by omega, by go_num, by omega, ?_⟩, by simp [intOf]⟩
              show Two _ _ _ _ _ _ _ _ _ _ _ _ _ _ _ _ _
              rw [HDR.out, turnAll_cons, HONE.out]
              exact T7.out
end Go.Proofs.YtdnebclemngdcaaGreatDoor
