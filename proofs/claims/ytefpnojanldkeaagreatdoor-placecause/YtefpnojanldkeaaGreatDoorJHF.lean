/- The sender with any messages: its box, its row; Acked; HeavyCommit, OwnCommit, WireOf; slices.Clone; a message copied; A message copied. -/
import Derived.Test.YtefpnojanldkeaaGreatDoorJTD
import Derived.Test.YtefpnojanldkeaaGreatDoorJSCome
import Derived.Test.YtefpnojanldkeaaGreatDoorJVOwnM
import Derived.Test.YtefpnojanldkeaaGreatDoorJSDel
import Derived.Test.YtefpnojanldkeaaGreatDoorJVRefN
import Derived.Test.YtefpnojanldkeaaGreatDoorJWState
import Derived.Test.YtefpnojanldkeaaGreatDoorJWPutN
import Derived.Test.YtefpnojanldkeaaGreatDoorJVStandM
import Derived.Test.YtefpnojanldkeaaGreatDoorJVOp
import Derived.Test.YtefpnojanldkeaaGreatDoorJVVec
import Derived.Test.YtefpnojanldkeaaGreatDoorJVMap
import Derived.Test.YtefpnojanldkeaaGreatDoorJVOnceM
import Derived.Test.YtefpnojanldkeaaGreatDoorJVRow
import Derived.Deep.Cut
import Derived.Deep.RegionHeld
import Derived.Test.YtefpnojanldkeaaGreatDoorJWMath
import Derived.Lib.SliceRun
import Derived.Laws.OwnMore
import Derived.Maps.AppendAt
namespace Go.Proofs.YtefpnojanldkeaaGreatDoor
open Go.RowKit
set_option maxRecDepth 100000
set_option linter.unusedSectionVars false
variable [Inhabited ComV] [DecidableEq D3] [Inhabited D3] [Inhabited Dd] [Inhabited Dn] [Inhabited OpV]

/-- A sender: its box g, a row of its own with what is not acked. -/
structure SndR (w : World) (g : Nat) (f t s seq time : Int) (v : Value) (l : List Raw) : Prop where
  box : w.heap[g]? = some (.cells #[.int .i64 f, .int .i64 t, .int .i64 s, .int .i64 seq, .int .i64 time, v] 123 (0, 0))
  row : w.ownsRow (g + 1) 44 9 v l.length (raws l)
theorem SndR.moved {w w' : World} {g : Nat} {f t s seq time : Int} {v : Value} {l : List Raw} (h : SndR w g f t s seq time v l) (hb : Below w.heap.size w w') : SndR w' g f t s seq time v l :=
  ⟨by rw [hb.block _ (lt_of_heap h.box)]; exact h.box, owns_at h.row fun k _ h2 => hb.block k h2⟩
theorem acked_raw (w : World) (g : Nat) (f t s seq time : Int) (v : Value) (l : List Raw) (h : SndR w g f t s seq time v l) (hl : l.length ≤ 1000) (h0 : 0 ≤ seq) (h1 : seq ≤ 1000) :
    Calls Tryz.prog 62 #[.pointer (some ⟨g, 0, none⟩)] w fun e w' => e = .returned (.int .i64 (seq - l.length)) ∧ w' = w.drew := by
  obtain ⟨a, c, rfl⟩ := row_shape h.row
  have c3 : w.cell? ⟨g, 3, none⟩ = some (.int .i64 seq) := (cell_of h.box).trans rfl
  have c5 : w.cell? ⟨g, 5, none⟩ = some (.slice a l.length c) := (cell_of h.box).trans rfl
  obtain ⟨n, hn⟩ : ∃ n, n = l.length := ⟨_, rfl⟩
  rw [← hn] at c5 hl ⊢
  clear h hn
  have r1 : (-9223372036854775808 : Int) ≤ seq - n := by omega
  have r2 : seq - n ≤ (9223372036854775807 : Int) := by omega
  go_enter Tryz.func62, Tryz.ntmps62
  go_wp2
  go_region
  go_wp2
  go_ret
  exact ⟨rfl, rfl⟩
theorem SndR.drew {w : World} {g : Nat} {f t s seq time : Int} {v : Value} {l : List Raw} (h : SndR w g f t s seq time v l) : SndR w.drew g f t s seq time v l := ⟨h.box, owns_own h.row fun _ _ => rfl⟩
set_option maxHeartbeats 2000000 in
theorem ackedOld_raw (w : World) (g : Nat) (f t s seq time k : Int) (v : Value) (l : List Raw) (h : SndR w g f t s seq time v l) (hl : l.length ≤ 1000) (h0 : 0 ≤ seq) (h1 : seq ≤ 1000) (hk0 : 0 ≤ k) (hk : k ≤ seq - l.length) :
    Calls Tryz.prog 34 #[.pointer (some ⟨g, 0, none⟩), .int .i64 k] w fun e w' => e = .returned .nilIface ∧ SndR w' g f t s seq time v l ∧ OnlyS g v w w' := by
  have c3 : w.cell? ⟨g, 3, none⟩ = some (.int .i64 seq) := (cell_of h.box).trans rfl
  have K := hid (acked_raw w g f t s seq time v l h hl h0 h1)
  have H := hid h
  obtain ⟨n, hn⟩ : ∃ n, n = l.length := ⟨_, rfl⟩
  rw [← hn] at hl hk K
  clear h hn
  have r1 : ¬ seq < k := by omega
  have r2 : (-9223372036854775808 : Int) ≤ k - (seq - n) := by omega
  have r3 : k - (seq - n) ≤ (9223372036854775807 : Int) := by omega
  have r4 : ¬ 0 < k - (seq - n) := by omega
  go_enter Tryz.func34, Tryz.ntmps34
  go_wp2_with fail
  refine K.out.mono ?_
  rintro e w' ⟨rfl, rfl⟩
  go_wp2_with fail
  go_ret
  exact ⟨rfl, H.out.drew, ⟨rfl, rfl, rfl, Nat.le_refl _, fun _ _ _ _ => rfl⟩⟩
set_option maxHeartbeats 2000000 in
theorem ackedNew_raw (w : World) (g j : Nat) (f t s seq time : Int) (v : Value) (l : List Raw) (h : SndR w g f t s seq time v l) (hl : l.length ≤ 1000) (h0 : 0 ≤ seq) (h1 : seq ≤ 1000) (hq : (l.length : Int) ≤ seq) (hj0 : 0 < j) (hj : j ≤ l.length) :
    Calls Tryz.prog 34 #[.pointer (some ⟨g, 0, none⟩), .int .i64 (seq - l.length + j)] w fun e w' => ∃ v', e = .returned .nilIface ∧ SndR w' g f t s seq time v' (l.drop j) ∧ OnlyS g v w w' ∧ v'.ownBlock = v.ownBlock := by
  have c3 : w.cell? ⟨g, 3, none⟩ = some (.int .i64 seq) := (cell_of h.box).trans rfl
  have K := hid (acked_raw w g f t s seq time v l h hl h0 h1)
  have H := hid h.drew
  have hrow := h.drew.row
  obtain ⟨b, cap, hv, hgb⟩ : ∃ b cap, v = .slice (some ⟨b, 0, none⟩) l.length cap ∧ g + 1 ≤ b := by
    rcases hrow.2 with ⟨_, hz⟩ | ⟨b, cap, cur, hv, hb, _⟩
    · omega
    · exact ⟨b, cap, hv, hb⟩
  subst hv
  have c5 : w.drew.cell? ⟨g, 5, none⟩ = some (.slice (some ⟨b, 0, none⟩) l.length cap) := (cell_of H.out.box).trans rfl
  have D := hid (delete_raw w.drew (g + 1) b cap j l.length l hrow rfl hj0 hj hl)
  obtain ⟨n, hn⟩ : ∃ n, n = l.length := ⟨_, rfl⟩
  have HN := hid hn
  rw [← hn] at hl hq hj K c5 D H ⊢
  clear h hn hrow
  have r0 : ¬ seq - n + j < 0 := by omega
  have r1 : ¬ seq < seq - n + j := by omega
  have r5 : seq - n + j - (seq - n) = (j : Int) := by omega
  have r2 : (j : Int) ≤ (9223372036854775807 : Int) := by omega
  have r4 : 0 < (j : Int) := by omega
  go_enter Tryz.func34, Tryz.ntmps34
  go_wp2_with fail
  refine K.out.mono ?_
  rintro e w' ⟨rfl, rfl⟩
  go_wp2_with fail
  refine D.out.mono ?_
  rintro e w2 ⟨rfl, hs2, ho2⟩
  have hb2 : w2.heap[g]? = some (.cells #[.int .i64 f, .int .i64 t, .int .i64 s, .int .i64 seq, .int .i64 time, .slice (some ⟨b, 0, none⟩) n cap] 123 (0, 0)) := by
    rw [ho2.block g (by omega)]; exact H.out.box
  have q5 : (w2.cell? ⟨g, 5, none⟩) = some (.slice (some ⟨b, 0, none⟩) n cap) := (cell_of hb2).trans rfl
  have z5 : w2.frozen? ⟨g, 5, none⟩ = false := free_of hb2
  have B2 := hid hb2
  have S2 := hid hs2
  have O2 := hid ho2
  clear hb2 hs2 ho2
  go_wp2_with fail
  go_ret
  refine ⟨.slice (some ⟨b, 0, none⟩) (n - j) cap, rfl, ⟨heap_set B2.out _, ?_⟩, ⟨O2.out.os, O2.out.tape, O2.out.output, ?_, ?_⟩, rfl⟩
  · refine owns_own S2.out fun b' hb' => Below.heap_setCell _ _ _ _ fun e => ?_
    have h3 : b = b' := Option.some.inj hb'
    subst h3
    have e' : b = g := e
    omega
  · rw [size_set]; exact Nat.le_of_eq O2.out.size
  · intro k hk hkg hkv
    rw [Below.heap_setCell _ _ _ _ hkg, O2.out.block k fun e => hkv (by rw [e]; rfl)]
    rfl
theorem ackedBad_raw (w : World) (g : Nat) (f t s seq time k : Int) (v : Value) (l : List Raw) (h : SndR w g f t s seq time v l) (ev : Value) (hev : w.cell? ⟨0, 0, none⟩ = some ev) (hk : k < 0 ∨ seq < k) :
    Calls Tryz.prog 34 #[.pointer (some ⟨g, 0, none⟩), .int .i64 k] w fun e w' => e = .returned ev ∧ w' = w := by
  have c3 : w.cell? ⟨g, 3, none⟩ = some (.int .i64 seq) := (cell_of h.box).trans rfl
  clear h
  by_cases h0 : k < 0
  · clear hk
    go_enter Tryz.func34, Tryz.ntmps34
    go_wp2_with fail
    go_ret
    exact ⟨rfl, rfl⟩
  · have h1 : seq < k := by omega
    clear hk
    go_enter Tryz.func34, Tryz.ntmps34
    go_wp2_with fail
    go_ret
    exact ⟨rfl, rfl⟩
end Go.Proofs.YtefpnojanldkeaaGreatDoor
namespace Go.Proofs.YtefpnojanldkeaaGreatDoor
open Go.RowKit
set_option maxRecDepth 100000
set_option linter.unusedSectionVars false
variable [Inhabited ComV] [DecidableEq D3] [Inhabited D3] [Inhabited Dd] [Inhabited Dn] [Inhabited OpV]

/-- A commit that a law takes. -/
structure Light (c : ComV) : Prop where
  when_ : c.when_.length ≤ 20
  ops : c.ops.length ≤ 20
  each : ∀ o ∈ c.ops, o.key.size ≤ 60 ∧ o.text.size ≤ 200 ∧ o.dots.length ≤ 70
theorem flat3_atS : ∀ (ds : List D3) (q r : Nat) (d : D3), ds[q]? = some d → r < 3 → (ds.flatMap D3.cells)[q * 3 + r]? = d.cells[r]?
  | [], _, _, _, h, _ => by simp at h
  | x :: ds, 0, r, d, h, hr => by
    simp at h
    subst h
    rw [List.flatMap_cons, List.getElem?_append_left (by show 0 * 3 + r < 3; omega), Nat.zero_mul, Nat.zero_add]
  | x :: ds, q + 1, r, d, h, hr => by
    rw [List.flatMap_cons, List.getElem?_append_right (by show 3 ≤ _; omega), show (q + 1) * 3 + r - x.cells.length = q * 3 + r by show (q + 1) * 3 + r - 3 = _; omega]
    exact flat3_atS ds q r d (by simpa using h) hr
theorem flat3_len : ∀ ds : List D3, (ds.flatMap D3.cells).length = ds.length * 3
  | [] => rfl
  | x :: r => by rw [List.flatMap_cons, List.length_append, flat3_len r, List.length_cons]; show 3 + _ = _; omega
theorem all_dots_one (ds : List D3) : ∀ u ∈ ds.flatMap D3.cells, u.oneCell' = true := fun u hu => by
  obtain ⟨d, _, h⟩ := List.mem_flatMap.1 hu
  exact dots_oneS d u h
/-- k ops are copied. -/
structure OwI (w : World) (c : ComV) (wv ov : Value) (k : Nat) (wv' ov' : Value) (wr : World) : Prop where
  below : Below w.heap.size w wr
  box : wr.heap[w.heap.size]? = some (.cells #[wv, .int .i64 c.place, ov] 36 (0, 0))
  res : wr.heap[w.heap.size + 1]? = some (.cells #[.slice none 0 0, .int .i64 0, .slice none 0 0] 36 (0, 0))
  out : wr.heap[w.heap.size + 2]? = some (.cells #[wv', .int .i64 c.place, ov'] 36 (0, 0))
  own : ComOwn (w.heap.size + 3) wr wv' ov' ⟨c.when_, c.place, c.ops.take k⟩
theorem OwI.size {w wr : World} {c : ComV} {wv ov wv' ov' : Value} {k : Nat} (h : OwI w c wv ov k wv' ov' wr) : w.heap.size + 3 ≤ wr.heap.size := lt_of_heap h.out
theorem OwI.moved {w wr w' : World} {c : ComV} {wv ov wv' ov' : Value} {k : Nat} (h : OwI w c wv ov k wv' ov' wr) (hb : Below wr.heap.size wr w') : OwI w c wv ov k wv' ov' w' := by
  have hs := h.size
  exact ⟨h.below.trans (hb.mono (by omega)), by rw [hb.block _ (by omega)]; exact h.box, by rw [hb.block _ (by omega)]; exact h.res, by rw [hb.block _ (by omega)]; exact h.out, h.own.at fun g _ h2 => hb.block g h2⟩
theorem OwI.start {w w3 : World} {c : ComV} {wv ov v3 : Value} (hg : (((w.alloc (.cells #[wv, .int .i64 c.place, ov] 36)).alloc (.cells #[.slice none 0 0, .int .i64 0, .slice none 0 0] 36)).alloc (.cells #[.slice none 0 0, .int .i64 c.place, .slice none 0 0] 36)).grownBy w3 none) (hown : w3.ownsRow (w.heap.size + 3) 3 1 v3 c.when_.length (c.when_.map (Value.int .i64))) :
    (w3.cell? ⟨w.heap.size + 1 + 1, 0, none⟩ = some (.slice none 0 0) ∧ w3.frozen? ⟨w.heap.size + 1 + 1, 0, none⟩ = false) ∧ OwI w c wv ov 0 v3 (.slice none 0 0) (w3.setCell ⟨w.heap.size + 2, 0, none⟩ v3) := by
  have e2 : w3.heap[w.heap.size + 2]? = some (.cells #[.slice none 0 0, .int .i64 c.place, .slice none 0 0] 36 (0, 0)) := by
    rw [hg.block _ (by simp) (by simp)]
    have := heap_new ((w.alloc (.cells #[wv, .int .i64 c.place, ov] 36)).alloc (.cells #[.slice none 0 0, .int .i64 0, .slice none 0 0] 36)) (.cells #[.slice none 0 0, .int .i64 c.place, .slice none 0 0] 36)
    simpa using this
  have e1 : w3.heap[w.heap.size + 1]? = some (.cells #[.slice none 0 0, .int .i64 0, .slice none 0 0] 36 (0, 0)) := by
    rw [hg.block _ (by simp) (by simp)]
    refine heap_old ?_ _
    have := heap_new (w.alloc (.cells #[wv, .int .i64 c.place, ov] 36)) (.cells #[.slice none 0 0, .int .i64 0, .slice none 0 0] 36)
    simpa using this
  have e0 : w3.heap[w.heap.size]? = some (.cells #[wv, .int .i64 c.place, ov] 36 (0, 0)) := by
    rw [hg.block _ (by simp; omega) (by simp)]
    exact heap_old (heap_old (heap_new _ _) _) _
  have hb : Below w.heap.size w w3 := ⟨hg.os, hg.tape, hg.output, by have := hg.size; simp at this; omega, fun k hk => by
    rw [hg.block k (by simp; omega) (by simp), Below.heap_alloc _ _ _ (by simp; omega), Below.heap_alloc _ _ _ (by simp; omega), Below.heap_alloc _ _ _ (by omega)]⟩
  refine ⟨⟨(cell_of e2).trans rfl, free_of e2⟩, hb.setCell (by show w.heap.size ≤ w.heap.size + 2; omega) _, by rw [Below.heap_setCell _ _ _ _ (by show w.heap.size ≠ w.heap.size + 2; omega)]; exact e0, by rw [Below.heap_setCell _ _ _ _ (by show w.heap.size + 1 ≠ w.heap.size + 2; omega)]; exact e1, by rw [heap_set e2]; rfl, ?_, [], World.ownsRow_nil _ _ _ _, by rw [List.take_zero]; trivial⟩
  exact owns_at hown fun g h1 _ => Below.heap_setCell _ _ _ _ (by show g ≠ w.heap.size + 2; omega)
def OfRetS (m : MsgV) (w : World) (e : Ending) (w' : World) : Prop := ∃ a1 c1 a2 c2, e = .returned (.agg #[.int .i64 m.frm, .int .i64 m.to_, .int .i64 m.shard, .int .i64 m.seq, .int .i64 m.time, .bool m.beat, .slice a1 m.c.when_.length c1, .int .i64 m.c.place, .slice a2 m.c.ops.length c2]) ∧ ComOwn w.heap.size w' (.slice a1 m.c.when_.length c1) (.slice a2 m.c.ops.length c2) m.c ∧ Below w.heap.size w w'
end Go.Proofs.YtefpnojanldkeaaGreatDoor
namespace Go.Proofs.YtefpnojanldkeaaGreatDoor
open Go.RowKit
set_option maxRecDepth 100000
set_option linter.unusedSectionVars false
variable [Inhabited ComV] [DecidableEq D3] [Inhabited D3] [Inhabited Dd] [Inhabited Dn] [Inhabited OpV]

/-- append(row of one's own, x...). -/
theorem wpList_append_own_srcS {w : World} {ops : Array Oper} {rest : List Oper} {o : Oper} {a : Act} {Q : Exit → Act → World → Prop} (hgd : o.guard = none) (s x : Operand) (t : TypeId)
    (ho : o.op = .call { callee := .builtin .append, args := #[s, x], argTypes := #[t, t] })
    (base : Nat) (e : TypeId) (i : TypeInfo) (z : Value) (size bytes : Nat) (ht : Tryz.prog.underlying t = some (.slice e)) (hi : Tryz.prog.info? e = some i) (hz : i.zero = some z)
    (hsize : i.size = size) (hby : i.bytes = bytes) (hzs : z.cells.size = size) (hsz : 0 < size)
    (v0 : Value) (n : Nat) (xs : List Value) (hs : a.eval s = v0) (hown : w.ownsRow base e size v0 n xs) (v : Value) (m : Nat) (news : List Value) (hx : a.eval x = v) (hv : SrcAt w v m size news) (h1 : ∀ u ∈ news, u.oneCell' = true)
    (h63 : n + m ≤ maxLen) (hbytes : (n + m) * bytes ≤ 140737488355328) (hbase : base ≤ w.heap.size)
    (h : ∀ v' w', w'.ownsRow base e size v' (n + m) (xs ++ news) → w.grownBy w' v0.ownBlock → (v'.ownBlock = v0.ownBlock ∨ v'.ownBlock = some w.heap.size) → wpList Tryz.prog ops Q rest (a.put o.dst v') w') : wpList Tryz.prog ops Q (o :: rest) a w := by
  rcases hv with ⟨rfl, rfl, rfl⟩ | ⟨ad, c, rfl, hl, hn⟩
  · exact wpList_append_own_none hgd s x t ho base e i size ht hi v0 n xs hs hown hx (h _ _ (by simpa using hown) ⟨rfl, rfl, rfl, Nat.le_refl _, fun _ _ _ => rfl⟩ (.inl rfl))
  · refine wpList_plain hgd fun _ hK => ?_
    obtain ⟨v', w', hr, h2, h3, _, h5⟩ := run_append_own_at (P := Tryz.prog) w base t o.type e i z size bytes ht hi hz hsize hby hzs hsz v0 n xs hown ad m c news hl hn h1 h63 hbytes hbase
    unfold Oper.wp execOp
    simp only [ho, resolve, invoke, builtin, Sem.run_bind, Sem.run_pure, Result.andThen_ok, List.map_toArray, List.map_cons, List.map_nil, hs, hx, hr]
    exact hK _ _ (h v' w' h2 h3 h5)
theorem SrcAt.nil_len {w : World} {n c m size : Nat} {news : List Value} (h : SrcAt w (.slice none n c) m size news) : n = 0 ∧ c = 0 ∧ m = 0 ∧ news = [] := by
  rcases h with ⟨h1, h2, h3⟩ | ⟨ad, c', h1, _⟩
  · injection h1 with _ h4 h5
    exact ⟨h4, h5, h2, h3⟩
  · cases h1
/-- What Clone of a row leaves. -/
def ClRet (e size : Nat) (w : World) (n : Nat) (news : List Value) (x : Ending) (w' : World) : Prop := ∃ a c, x = .returned (.slice a n c) ∧ w'.ownsRow w.heap.size e size (.slice a n c) n news ∧ Below w.heap.size w w'
set_option maxHeartbeats 2000000 in
theorem clone48 (w : World) (a : Option Addr) (n c : Nat) (news : List Value) (h : SrcAt w (.slice a n c) n 1 news) (h1 : ∀ u ∈ news, u.oneCell' = true) (hl : n ≤ 1000000) :
    Calls Tryz.prog 49 #[.slice a n c] w (ClRet 3 1 w n news) := by
  have q22 : ∀ (w : World) (a : Option Addr) (n c n' c' : Nat), (binOp .eql 23 (.slice a n c) (.slice none n' c')).run Tryz.prog w = .ok (.bool a.isNone) w := fun w a n c n' c' => Lib.run_eql_slice_nil w _ _ a n c n' c' Tryz.underlying23
  obtain ⟨i0, hi, hz0, hz1, hz2⟩ := info_parts Tryz.info3
  have HS := hid h
  have H1 := hid h1
  clear h h1
  cases a with
  | none =>
    obtain ⟨rfl, rfl, _, rfl⟩ := HS.out.nil_len
    go_enter Tryz.func49, Tryz.ntmps49
    go_wp2
    go_ret
    exact ⟨none, 0, rfl, World.ownsRow_nil _ _ _ _, Below.refl _ _⟩
  | some ad =>
    go_enter Tryz.func49, Tryz.ntmps49
    go_wp2_with (at_builtin; refine wpList_append_own_srcS rfl _ _ 23 rfl w.heap.size 3 i0 _ 1 8 Tryz.underlying23 hi hz0 hz1 hz2 rfl (by decide) _ _ _ rfl (World.ownsRow_made w #[] 0 (Nat.le_refl _) (Nat.zero_le _) rfl) _ n news rfl ?hs1 H1.out ?hm2 ?hm3 ?hm4 ?_; (case hs1 => exact HS.out.moved (fun a u h => cell_alloc h _)); (case hm2 => unfold maxLen; omega); (case hm3 => omega); (case hm4 => simp); intro v3 w3 hown3 hgrow3 _)
    rw [Nat.zero_add, List.nil_append] at hown3
    obtain ⟨a3, c3, rfl⟩ := row_shape hown3
    have HT := hid hown3
    have HB : Hid (Below w.heap.size w w3) := ((Below.refl _ w).alloc (Nat.le_refl _) _).grown hgrow3 (by simp) (fun k hk => ((World.ownsRow_made (e := 3) (size := 1) (base := w.heap.size) w #[] 0 (Nat.le_refl _) (Nat.zero_le _) rfl).lt k hk).1)
    clear hown3 hgrow3
    go_wp2
    go_ret
    exact ⟨a3, c3, rfl, HT.out, HB.out⟩
set_option maxHeartbeats 2000000 in
theorem clone49 (w : World) (a : Option Addr) (n c : Nat) (news : List Value) (h : SrcAt w (.slice a n c) n 7 news) (h1 : ∀ u ∈ news, u.oneCell' = true) (hl : n ≤ 1000000) :
    Calls Tryz.prog 50 #[.slice a n c] w (ClRet 34 7 w n news) := by
  have q22 : ∀ (w : World) (a : Option Addr) (n c n' c' : Nat), (binOp .eql 30 (.slice a n c) (.slice none n' c')).run Tryz.prog w = .ok (.bool a.isNone) w := fun w a n c n' c' => Lib.run_eql_slice_nil w _ _ a n c n' c' Tryz.underlying30
  obtain ⟨i0, hi, hz0, hz1, hz2⟩ := info_parts Tryz.info34
  have HS := hid h
  have H1 := hid h1
  clear h h1
  cases a with
  | none =>
    obtain ⟨rfl, rfl, _, rfl⟩ := HS.out.nil_len
    go_enter Tryz.func50, Tryz.ntmps50
    go_wp2
    go_ret
    exact ⟨none, 0, rfl, World.ownsRow_nil _ _ _ _, Below.refl _ _⟩
  | some ad =>
    go_enter Tryz.func50, Tryz.ntmps50
    go_wp2_with (at_builtin; refine wpList_append_own_srcS rfl _ _ 30 rfl w.heap.size 34 i0 _ 7 88 Tryz.underlying30 hi hz0 hz1 hz2 rfl (by decide) _ _ _ rfl (World.ownsRow_made w #[] 0 (Nat.le_refl _) (Nat.zero_le _) rfl) _ n news rfl ?hs1 H1.out ?hm2 ?hm3 ?hm4 ?_; (case hs1 => exact HS.out.moved (fun a u h => cell_alloc h _)); (case hm2 => unfold maxLen; omega); (case hm3 => omega); (case hm4 => simp); intro v3 w3 hown3 hgrow3 _)
    rw [Nat.zero_add, List.nil_append] at hown3
    obtain ⟨a3, c3, rfl⟩ := row_shape hown3
    have HT := hid hown3
    have HB : Hid (Below w.heap.size w w3) := ((Below.refl _ w).alloc (Nat.le_refl _) _).grown hgrow3 (by simp) (fun k hk => ((World.ownsRow_made (e := 34) (size := 7) (base := w.heap.size) w #[] 0 (Nat.le_refl _) (Nat.zero_le _) rfl).lt k hk).1)
    clear hown3 hgrow3
    go_wp2
    go_ret
    exact ⟨a3, c3, rfl, HT.out, HB.out⟩
set_option maxHeartbeats 2000000 in
theorem clone50 (w : World) (a : Option Addr) (n c : Nat) (news : List Value) (h : SrcAt w (.slice a n c) n 3 news) (h1 : ∀ u ∈ news, u.oneCell' = true) (hl : n ≤ 1000000) :
    Calls Tryz.prog 51 #[.slice a n c] w (ClRet 90 3 w n news) := by
  have q22 : ∀ (w : World) (a : Option Addr) (n c n' c' : Nat), (binOp .eql 32 (.slice a n c) (.slice none n' c')).run Tryz.prog w = .ok (.bool a.isNone) w := fun w a n c n' c' => Lib.run_eql_slice_nil w _ _ a n c n' c' Tryz.underlying32
  obtain ⟨i0, hi, hz0, hz1, hz2⟩ := info_parts Tryz.info90
  have HS := hid h
  have H1 := hid h1
  clear h h1
  cases a with
  | none =>
    obtain ⟨rfl, rfl, _, rfl⟩ := HS.out.nil_len
    go_enter Tryz.func51, Tryz.ntmps51
    go_wp2
    go_ret
    exact ⟨none, 0, rfl, World.ownsRow_nil _ _ _ _, Below.refl _ _⟩
  | some ad =>
    go_enter Tryz.func51, Tryz.ntmps51
    go_wp2_with (at_builtin; refine wpList_append_own_srcS rfl _ _ 32 rfl w.heap.size 90 i0 _ 3 24 Tryz.underlying32 hi hz0 hz1 hz2 rfl (by decide) _ _ _ rfl (World.ownsRow_made w #[] 0 (Nat.le_refl _) (Nat.zero_le _) rfl) _ n news rfl ?hs1 H1.out ?hm2 ?hm3 ?hm4 ?_; (case hs1 => exact HS.out.moved (fun a u h => cell_alloc h _)); (case hm2 => unfold maxLen; omega); (case hm3 => omega); (case hm4 => simp); intro v3 w3 hown3 hgrow3 _)
    rw [Nat.zero_add, List.nil_append] at hown3
    obtain ⟨a3, c3, rfl⟩ := row_shape hown3
    have HT := hid hown3
    have HB : Hid (Below w.heap.size w w3) := ((Below.refl _ w).alloc (Nat.le_refl _) _).grown hgrow3 (by simp) (fun k hk => ((World.ownsRow_made (e := 90) (size := 3) (base := w.heap.size) w #[] 0 (Nat.le_refl _) (Nat.zero_le _) rfl).lt k hk).1)
    clear hown3 hgrow3
    go_wp2
    go_ret
    exact ⟨a3, c3, rfl, HT.out, HB.out⟩
/-- A slice of ops as the source of an append. -/
theorem flat7_at : ∀ (rows : List (List Value)) (q j : Nat) (r : List Value), (∀ x ∈ rows, x.length = 7) → rows[q]? = some r → j < 7 → rows.flatten[q * 7 + j]? = r[j]?
  | [], _, _, _, _, h, _ => by simp at h
  | x :: rows, 0, j, r, hx, h, hj => by
    simp at h
    subst h
    rw [List.flatten_cons, List.getElem?_append_left (by rw [hx x (List.mem_cons_self ..)]; omega), Nat.zero_mul, Nat.zero_add]
  | x :: rows, q + 1, j, r, hx, h, hj => by
    have hx7 := hx x (List.mem_cons_self ..)
    rw [List.flatten_cons, List.getElem?_append_right (by rw [hx7]; omega), show (q + 1) * 7 + j - x.length = q * 7 + j by rw [hx7]; omega]
    exact flat7_at rows q j r (fun y hy => hx y (List.mem_cons_of_mem _ hy)) (by simpa using h) hj
theorem flat7_len : ∀ rows : List (List Value), (∀ x ∈ rows, x.length = 7) → rows.flatten.length = rows.length * 7
  | [], _ => rfl
  | x :: r, h => by rw [List.flatten_cons, List.length_append, h x (List.mem_cons_self ..), flat7_len r (fun y hy => h y (List.mem_cons_of_mem _ hy)), List.length_cons]; omega
theorem src_ops {w : World} {v : Value} {rows : List (List Value)} (h : RowAt 7 w v rows) (h7 : ∀ x ∈ rows, x.length = 7) : SrcAt w v rows.length 7 rows.flatten := by
  obtain ⟨ad, c, rfl, h0, _, h⟩ := h
  cases ad with
  | none =>
    obtain rfl := h0 rfl
    rcases h with h | ⟨b, o, he, _⟩
    · subst h
      exact .inl ⟨rfl, rfl, rfl⟩
    · cases he
  | some a =>
    refine .inr ⟨a, c, rfl, flat7_len rows h7, fun j u hj => ?_⟩
    rcases h with h | ⟨b, o, he, h⟩
    · subst h
      simp at hj
    · obtain rfl := Option.some.inj he
      have hjl : j < rows.length * 7 := by have := (List.getElem?_eq_some_iff.1 hj).1; rw [flat7_len rows h7] at this; exact this
      have hq : j / 7 < rows.length := by omega
      have hr : j % 7 < 7 := by omega
      have hd : rows[j / 7]? = some rows[j / 7] := List.getElem?_eq_getElem hq
      have e := flat7_at rows (j / 7) (j % 7) _ h7 hd hr
      rw [show j / 7 * 7 + j % 7 = j by omega, hj] at e
      have := (h (j / 7) _ hd).2 (j % 7) u e.symm
      rw [Addr.add_lit, ← this]
      congr 2
      omega
theorem rows7_one {w : World} : ∀ {rows : List (List Value)} {os : List OpV}, F2 (OpRow w) rows os → ∀ u ∈ rows.flatten, u.oneCell' = true
  | [], [], _, _, hr => by simp at hr
  | r :: _, _ :: _, ⟨⟨dv, h1, hd⟩, h2⟩, u, hu => by
    rw [List.flatten_cons, List.mem_append] at hu
    rcases hu with hu | hu
    · subst h1
      obtain ⟨a, c, rfl⟩ := hd.len
      exact one7S _ _ _ _ u hu
    · exact rows7_one h2 u hu
end Go.Proofs.YtefpnojanldkeaaGreatDoor
namespace Go.Proofs.YtefpnojanldkeaaGreatDoor
open Go.RowKit
set_option maxRecDepth 100000
set_option linter.unusedSectionVars false
variable [Inhabited ComV] [DecidableEq D3] [Inhabited D3] [Inhabited Dd] [Inhabited Dn] [Inhabited OpV]

/-- One cell of one row turned. -/
theorem flat_set (A B : List (List Value)) (x : List Value) (u : Value) (hA : ∀ y ∈ A, y.length = 7) (hx : x.length = 7) : ((A ++ x :: B).flatten).set (A.length * 7 + 6) u = (A ++ x.set 6 u :: B).flatten := by
  have h1 := flat7_len A hA
  rw [List.flatten_append, List.flatten_append, List.flatten_cons, List.flatten_cons, List.set_append_right _ _ (by omega), List.set_append_left _ _ (by omega), show A.length * 7 + 6 - A.flatten.length = 6 by omega]
/-- k ops have dots of their own. -/
structure CpI (w : World) (p : Int) (ws : List Int) (os : List OpV) (n1 n2 : Nat) (a1 : Option Addr) (c1 : Nat) (a2 : Option Addr) (c2 : Nat) (k : Nat) (wr : World) : Prop where
  below : Below w.heap.size w wr
  box : wr.heap[w.heap.size]? = some (.cells #[.slice a1 n1 c1, .int .i64 p, .slice a2 n2 c2] 36 (0, 0))
  res : wr.heap[w.heap.size + 1]? = some (.cells #[.slice none 0 0, .int .i64 0, .slice none 0 0] 36 (0, 0))
  when_ : wr.ownsRow (w.heap.size + 2) 3 1 (.slice a1 n1 c1) n1 (ws.map (Value.int .i64))
  ops : ∃ A B, wr.ownsRow (w.heap.size + 2) 34 7 (.slice a2 n2 c2) n2 (A ++ B).flatten ∧ F2 (OpOwn (w.heap.size + 2) wr) A (os.take k) ∧ F2 (OpRow w) B (os.drop k)
theorem drop_cons {α : Type} {l : List α} {k : Nat} {x : α} (h : l[k]? = some x) : l.drop k = x :: l.drop (k + 1) := by
  obtain ⟨h1, h2⟩ := List.getElem?_eq_some_iff.1 h
  rw [List.drop_eq_getElem_cons h1, h2]
/-- The next op: where it lies, its dots. -/
theorem CpI.next {w wr : World} {p : Int} {ws : List Int} {os : List OpV} {n1 n2 : Nat} {a1 a2 : Option Addr} {c1 c2 k : Nat} (h : CpI w p ws os n1 n2 a1 c1 a2 c2 k wr) {o : OpV} (ho : os[k]? = some o) :
    ∃ b dp dc, a2 = some ⟨b, 0, none⟩ ∧ wr.cell? ⟨b, k * 7 + 6, none⟩ = some (.slice dp o.dots.length dc) ∧ (∀ u : World, u.heap[b]? = wr.heap[b]? → u.cell? ⟨b, k * 7 + 6, none⟩ = some (.slice dp o.dots.length dc) ∧ u.frozen? ⟨b, k * 7 + 6, none⟩ = false) ∧ DotsAt w (.slice dp o.dots.length dc) o.dots ∧ w.heap.size + 2 ≤ b ∧ b < wr.heap.size ∧
      ∀ (w1 : World) (a5 : Option Addr) (c5 : Nat), Below wr.heap.size wr w1 → w1.ownsRow wr.heap.size 90 3 (.slice a5 o.dots.length c5) o.dots.length (o.dots.flatMap D3.cells) → CpI w p ws os n1 n2 a1 c1 a2 c2 (k + 1) (w1.setCell ⟨b, k * 7 + 6, none⟩ (.slice a5 o.dots.length c5)) := by
  obtain ⟨A, B, hr, hA, hB⟩ := h.ops
  have hkl : k < os.length := (List.getElem?_eq_some_iff.1 ho).1
  rw [drop_cons ho] at hB
  match B, hB with
  | r :: B, ⟨⟨dv, hrc, hd⟩, hB⟩ =>
    obtain ⟨dp, dc, rfl⟩ := hd.len
    have hAl : A.length = k := by rw [f2_len hA, List.length_take]; omega
    have hBl : B.length = os.length - (k + 1) := by rw [f2_len hB, List.length_drop]
    have hA7 : ∀ y ∈ A, y.length = 7 := rows7 (f2_opRow hA)
    have hB7 : ∀ y ∈ B, y.length = 7 := rows7 hB
    have hr7 : r.length = 7 := by rw [hrc]; rfl
    have hall : ∀ y ∈ A ++ r :: B, y.length = 7 := fun y hy => by
      rcases List.mem_append.1 hy with hy | hy
      · exact hA7 y hy
      · rcases List.mem_cons.1 hy with rfl | hy
        · exact hr7
        · exact hB7 y hy
    have hlen := hr.1
    rw [flat7_len _ hall, List.length_append, List.length_cons, hAl, hBl] at hlen
    have hn2 : n2 = os.length := by omega
    rcases hr.2 with ⟨h1, h0⟩ | ⟨b, cap, cur, hv, hgb, hh, _⟩
    · omega
    · injection hv with hv _ _
      subst hv
      have hblt : b < wr.heap.size := lt_of_heap hh
      have hcell : wr.cell? ⟨b, k * 7 + 6, none⟩ = some (.slice dp o.dots.length dc) := by
        rw [hr.cellAt (k * 7 + 6) (by omega), flat7_at _ k 6 r hall (by rw [List.getElem?_append_right (by omega), hAl, Nat.sub_self]; rfl) (by omega), hrc]
        rfl
      refine ⟨b, dp, dc, rfl, hcell, fun u hu => ⟨?_, ?_⟩, hd, hgb, hblt, fun w1 a5 c5 hb1 hd5 => ?_⟩
      · rw [World.cell?_of_block (w := wr) hu]; exact hcell
      · rw [free_of (hu.trans hh)]
      · have hbk := hb1.block
        have hr1 := owns_at hr fun g _ h2 => hbk g h2
        have hh1 : w1.heap[b]? = _ := (hbk b hblt).trans hh
        have hst := (hr1.stored (k * 7 + 6) (.slice a5 o.dots.length c5)).1
        rw [show k * 7 + 6 = A.length * 7 + 6 by rw [hAl], flat_set A B r _ hA7 hr7] at hst
        rw [hAl] at hst
        have ne : ∀ (t : TypeId) (q : Nat) (cs : Array Value), t ≠ 34 → w1.heap[q]? = some (.cells cs t (0, 0)) → (w1.setCell ⟨b, k * 7 + 6, none⟩ (.slice a5 o.dots.length c5)).heap[q]? = w1.heap[q]? := fun t q cs ht hq => Below.heap_setCell _ _ _ _ fun e => by
          have e' : q = b := e
          rw [e', hh1] at hq
          injection hq with hq
          injection hq with _ hq
          exact ht hq.symm
        have low : ∀ q, q < w.heap.size + 2 → (w1.setCell ⟨b, k * 7 + 6, none⟩ (.slice a5 o.dots.length c5)).heap[q]? = wr.heap[q]? := fun q hq => by
          rw [Below.heap_setCell _ _ _ _ (by show q ≠ b; omega)]
          exact hbk q (by omega)
        refine ⟨⟨hb1.os.trans h.below.os, hb1.tape.trans h.below.tape, hb1.output.trans h.below.output, ?_, fun q hq => (low q (by omega)).trans (h.below.block q hq)⟩, (low _ (by omega)).trans h.box, (low _ (by omega)).trans h.res, ?_, A ++ [opCells o (.slice a5 o.dots.length c5)], B, ?_, ?_, hB⟩
        · have h1 := hb1.size
          have h2 := h.below.size
          rw [show (w1.setCell ⟨b, k * 7 + 6, none⟩ (.slice a5 o.dots.length c5)).heap.size = w1.heap.size by simp]
          omega
        · exact owns_below (owns_at h.when_ fun g _ h2 => hbk g h2) fun q cs hq => ne 3 q cs (by decide) hq
        · rw [List.append_assoc]
          have e : r.set 6 (.slice a5 o.dots.length c5) = opCells o (.slice a5 o.dots.length c5) := by rw [hrc]; rfl
          rw [← e]
          exact hst
        · rw [List.take_succ_eq_append_getElem hkl, (List.getElem?_eq_some_iff.1 ho).2]
          refine f2_append (f2_mono (fun _ _ q => (q.at fun g _ h2 => hbk g h2).kept fun b' cs hc => ne 90 b' cs (by decide) hc) hA) ⟨_, rfl, ?_⟩
          exact owns_below (owns_base hd5 (by have := hb1.size; omega)) fun q cs hq => ne 90 q cs (by decide) hq
end Go.Proofs.YtefpnojanldkeaaGreatDoor
