/- The sender's next: a beat; The sender's Beat. -/
import Derived.Test.YtcojglkjbbgoaaaDoorJSWay
import Derived.Deep.RegionLaw
import Derived.Maps.AppendAt
import Derived.Deep.Cut
namespace Go.Proofs.YtcojglkjbbgoaaaDoor
open Go.RowKit
set_option maxRecDepth 100000

/-- append to a row of one's own, as one step of a region that draws. -/
theorem step_append_at {ops : Array Oper} {o : Oper} {a : Act} {w : World} {K : Act → World → Prop} {Q : Exit → Act → World → Prop} {E : Prop} (hgd : o.guard = none) (s x : Operand) (t : TypeId)
    (ho : o.op = .call { callee := .builtin .append, args := #[s, x], argTypes := #[t, t] })
    (base : Nat) (e : TypeId) (i : TypeInfo) (z : Value) (size bytes : Nat) (ht : Tryd.prog.underlying t = some (.slice e)) (hi : Tryd.prog.info? e = some i) (hz : i.zero = some z)
    (hsize : i.size = size) (hby : i.bytes = bytes) (hzs : z.cells.size = size) (hsz : 0 < size)
    (v : Value) (n : Nat) (xs : List Value) (hs : a.eval s = v) (hown : w.ownsRow base e size v n xs)
    (ad : Addr) (m c : Nat) (news : List Value) (hx : a.eval x = .slice (some ad) m c) (hl : news.length = m * size) (hnews : ∀ j u, news[j]? = some u → w.cell? (ad.add j) = some u) (h1 : ∀ u ∈ news, u.oneCell' = true)
    (h63 : n + m ≤ maxLen) (hbytes : (n + m) * bytes ≤ 140737488355328) (hbase : base ≤ w.heap.size)
    (h : ∀ v' w', w'.ownsRow base e size v' (n + m) (xs ++ news) → w.grownBy w' v.ownBlock → (v'.ownBlock = v.ownBlock ∨ v'.ownBlock = some w.heap.size) → K (a.put o.dst v') w') :
    if Region.wanted o (yielded ops a.tmps) = true then Oper.wp Tryd.prog o a w K Q else E := by
  have hw : Region.wanted o (yielded ops a.tmps) = true := by simp [Region.wanted, hgd]
  rw [if_pos hw]
  obtain ⟨v', w', hr, h2, h3, _, h5⟩ := run_append_own_at (P := Tryd.prog) w base t o.type e i z size bytes ht hi hz hsize hby hzs hsz v n xs hown ad m c news hl hnews h1 h63 hbytes hbase
  unfold Oper.wp execOp
  simp only [ho, resolve, invoke, builtin, Sem.run_bind, Sem.run_pure, Result.andThen_ok, List.map_toArray, List.map_cons, List.map_nil, hs, hx, hr]
  exact h v' w' h2 h3 h5
theorem Tryd.info37 : (Tryd.prog.info? 37).map (fun i => (i.zero, i.size, i.bytes)) = some (some (.agg #[.int .i64 0, .int .i64 0, .int .i64 0, .int .i64 0, .int .i64 0, .bool false, .slice none 0 0, .int .i64 0, .slice none 0 0]), 9, 104) := by kernel_rfl
/-- The cells of a list of beats (number, time). -/
def beats (f t s : Int) (l : List (Int × Int)) : List Value := l.flatMap fun p => beat9 f t s p.1 p.2
/-- A sender that has sent l (number, time) and has it all unacked: its box, and a row of its own. -/
structure Snd (w : World) (g : Nat) (f t s seq time : Int) (v : Value) (l : List (Int × Int)) : Prop where
  box : w.heap[g]? = some (.cells #[.int .i64 f, .int .i64 t, .int .i64 s, .int .i64 seq, .int .i64 time, v] 86 (0, 0))
  row : w.ownsRow (g + 1) 37 9 v l.length (beats f t s l)
/-- Only block g, and the row v, may have turned. -/
structure OnlyS (g : Nat) (v : Value) (w w' : World) : Prop where
  os : w'.os = w.os
  tape : w'.tape = w.tape
  output : w'.output = w.output
  size : w.heap.size ≤ w'.heap.size
  block : ∀ k, k < w.heap.size → k ≠ g → v.ownBlock ≠ some k → w'.heap[k]? = w.heap[k]?
/-- A row of one's own stays as long as its own block does. -/
theorem owns_own {w w' : World} {base e size n : Nat} {v : Value} {xs : List Value} (h : w.ownsRow base e size v n xs) (hk : ∀ b, v.ownBlock = some b → w'.heap[b]? = w.heap[b]?) : w'.ownsRow base e size v n xs := by
  obtain ⟨h1, h2⟩ := h
  refine ⟨h1, ?_⟩
  rcases h2 with h2 | ⟨b, cap, cur, hv, hg, hh, r⟩
  · exact .inl h2
  · exact .inr ⟨b, cap, cur, hv, hg, by rw [hk b (by rw [hv]; rfl)]; exact hh, r⟩
theorem beats_snoc (f t s : Int) (l : List (Int × Int)) (p : Int × Int) : beats f t s (l ++ [p]) = beats f t s l ++ beat9 f t s p.1 p.2 := by
  unfold beats
  rw [List.flatMap_append]
  simp
theorem one9 (f t s seq time : Int) : ∀ u ∈ beat9 f t s seq time, u.oneCell' = true := fun u hu => by
  simp only [beat9, List.mem_cons, List.not_mem_nil, or_false] at hu
  rcases hu with rfl | rfl | rfl | rfl | rfl | rfl | rfl | rfl | rfl <;> rfl
/-- Inside next: the sender, the message's box and the result's. -/
structure Nx (w : World) (g : Nat) (f t s seq time : Int) (v0 v : Value) (l : List (Int × Int)) (w' : World) : Prop where
  snd : Snd w' g f t s seq time v l
  mbox : w'.heap[w.heap.size]? = some (.cells (beat9 f t s seq time).toArray 37 (0, 0))
  rbox : w'.heap[w.heap.size + 1]? = some (.cells #[.int .i64 0, .int .i64 0, .int .i64 0, .int .i64 0, .int .i64 0, .bool false, .slice none 0 0, .int .i64 0, .slice none 0 0] 37 (0, 0))
  only : OnlyS g v0 w w'
theorem Nx.size {w w' : World} {g : Nat} {f t s seq time : Int} {v0 v : Value} {l : List (Int × Int)} (h : Nx w g f t s seq time v0 v l w') : w.heap.size + 2 ≤ w'.heap.size := lt_of_heap h.rbox
theorem below_undrew {B : Nat} {w w' : World} (h : Below B w.drew w') : Below B w w' := ⟨h.os, h.tape, h.output, h.size, h.block⟩
theorem OnlyS.then {g : Nat} {v : Value} {w w1 w2 : World} (h : OnlyS g v w w1) (k : Below w1.heap.size w1 w2) : OnlyS g v w w2 :=
  ⟨k.os.trans h.os, k.tape.trans h.tape, k.output.trans h.output, Nat.le_trans h.size k.size, fun i hi hg hv => (k.block i (by have := h.size; omega)).trans (h.block i hi hg hv)⟩
theorem Snd.moved {w w' : World} {g : Nat} {f t s seq time : Int} {v : Value} {l : List (Int × Int)} (h : Snd w g f t s seq time v l) (hb : Below w.heap.size w w') : Snd w' g f t s seq time v l :=
  ⟨by rw [hb.block _ (lt_of_heap h.box)]; exact h.box, owns_at h.row fun k _ h2 => hb.block k h2⟩
theorem Nx.moved {w w1 w2 : World} {g : Nat} {f t s seq time : Int} {v0 v : Value} {l : List (Int × Int)} (h : Nx w g f t s seq time v0 v l w1) (hb : Below w1.heap.size w1 w2) : Nx w g f t s seq time v0 v l w2 := by
  have hs := h.size
  exact ⟨h.snd.moved hb, by rw [hb.block _ (by omega)]; exact h.mbox, by rw [hb.block _ (by omega)]; exact h.rbox, h.only.then hb⟩
theorem Nx.start {w : World} {g : Nat} {f t s seq time nt : Int} {v : Value} {l : List (Int × Int)} (h : Snd w g f t s seq time v l) (seq' : Int) :
    Nx w g f t s seq' nt v v l ((((w.setCell ⟨g, 3, none⟩ (.int .i64 seq')).setCell ⟨g, 4, none⟩ (.int .i64 nt)).alloc (.cells #[.int .i64 f, .int .i64 t, .int .i64 s, .int .i64 seq', .int .i64 nt, .bool true, .slice none 0 0, .int .i64 0, .slice none 0 0] 37)).alloc (.cells #[.int .i64 0, .int .i64 0, .int .i64 0, .int .i64 0, .int .i64 0, .bool false, .slice none 0 0, .int .i64 0, .slice none 0 0] 37)).drew := by
  have hg := lt_of_heap h.box
  have e0 : ((w.setCell ⟨g, 3, none⟩ (.int .i64 seq')).setCell ⟨g, 4, none⟩ (.int .i64 nt)).heap[g]? = some (.cells #[.int .i64 f, .int .i64 t, .int .i64 s, .int .i64 seq', .int .i64 nt, v] 86 (0, 0)) := by
    rw [heap_set (heap_set h.box _)]; rfl
  have hsz : ((w.setCell ⟨g, 3, none⟩ (.int .i64 seq')).setCell ⟨g, 4, none⟩ (.int .i64 nt)).heap.size = w.heap.size := by rw [size_set, size_set]
  have keep : ∀ k, k < w.heap.size → k ≠ g → ((((w.setCell ⟨g, 3, none⟩ (.int .i64 seq')).setCell ⟨g, 4, none⟩ (.int .i64 nt)).alloc (.cells #[.int .i64 f, .int .i64 t, .int .i64 s, .int .i64 seq', .int .i64 nt, .bool true, .slice none 0 0, .int .i64 0, .slice none 0 0] 37)).alloc (.cells #[.int .i64 0, .int .i64 0, .int .i64 0, .int .i64 0, .int .i64 0, .bool false, .slice none 0 0, .int .i64 0, .slice none 0 0] 37)).drew.heap[k]? = w.heap[k]? := fun k hk hkg => by
    rw [drew_heap, Below.heap_alloc _ _ _ (by rw [World.size_alloc, hsz]; omega), Below.heap_alloc _ _ _ (by rw [hsz]; omega), Below.heap_setCell _ _ _ _ hkg, Below.heap_setCell _ _ _ _ hkg]
  refine ⟨⟨?_, owns_at h.row fun k h1 h2 => keep k h2 (by omega)⟩, ?_, ?_, ⟨rfl, rfl, rfl, ?_, fun k hk hkg _ => keep k hk hkg⟩⟩
  · rw [drew_heap]
    exact heap_old (heap_old e0 _) _
  · rw [drew_heap]
    have := heap_new ((w.setCell ⟨g, 3, none⟩ (.int .i64 seq')).setCell ⟨g, 4, none⟩ (.int .i64 nt)) (.cells #[.int .i64 f, .int .i64 t, .int .i64 s, .int .i64 seq', .int .i64 nt, .bool true, .slice none 0 0, .int .i64 0, .slice none 0 0] 37)
    rw [hsz] at this
    exact heap_old this _
  · rw [drew_heap]
    have := heap_new2 ((w.setCell ⟨g, 3, none⟩ (.int .i64 seq')).setCell ⟨g, 4, none⟩ (.int .i64 nt)) (.cells #[.int .i64 f, .int .i64 t, .int .i64 s, .int .i64 seq', .int .i64 nt, .bool true, .slice none 0 0, .int .i64 0, .slice none 0 0] 37) (.cells #[.int .i64 0, .int .i64 0, .int .i64 0, .int .i64 0, .int .i64 0, .bool false, .slice none 0 0, .int .i64 0, .slice none 0 0] 37)
    rwa [hsz] at this
  · rw [drew_heap, World.size_alloc, World.size_alloc, hsz]; omega
/-- The copy is put behind the others. -/
theorem Nx.more {w w1 w2 : World} {g : Nat} {f t s seq time : Int} {v v' : Value} {l : List (Int × Int)} (h : Nx w g f t s seq time v v l w1) (hg : g < w.heap.size) {o' : Obj} (hn : w2.ownsRow (g + 1) 37 9 v' (l.length + 1) (beats f t s l ++ beat9 f t s seq time)) (hgr : (w1.alloc o').grownBy w2 v.ownBlock) (hv : ∀ b, v.ownBlock = some b → b < w.heap.size) (hat : v'.ownBlock = v.ownBlock ∨ v'.ownBlock = some (w1.alloc o').heap.size) :
    (w2.cell? ⟨g, 5, none⟩ = some v ∧ w2.frozen? ⟨g, 5, none⟩ = false) ∧ Nx w g f t s seq time v v' (l ++ [(seq, time)]) (w2.setCell ⟨g, 5, none⟩ v') ∧ (v'.ownBlock = v.ownBlock ∨ ∃ b, v'.ownBlock = some b ∧ w.heap.size + 2 ≤ b) := by
  have hs := h.size
  have keep : ∀ k, k < w1.heap.size → v.ownBlock ≠ some k → w2.heap[k]? = w1.heap[k]? := fun k hk hkv => by
    rw [hgr.block k (by simp; omega) hkv.symm, Below.heap_alloc _ _ _ hk]
  have hgv : v.ownBlock ≠ some g := fun e => by have := (h.snd.row.lt g e).1; omega
  have e0 := (keep g (by omega) hgv).trans h.snd.box
  have hm : v.ownBlock ≠ some w.heap.size := fun e => by have := hv _ e; omega
  have hr : v.ownBlock ≠ some (w.heap.size + 1) := fun e => by have := hv _ e; omega
  refine ⟨⟨(cell_of e0).trans rfl, free_of e0⟩, ⟨⟨by rw [heap_set e0]; rfl, ?_⟩, ?_, ?_, ?_⟩, ?_⟩
  · rw [beats_snoc, List.length_append]
    exact owns_at hn fun k h1 _ => Below.heap_setCell _ _ _ _ (by show k ≠ g; omega)
  · rw [Below.heap_setCell _ _ _ _ (by show w.heap.size ≠ g; omega), keep _ (by omega) hm]; exact h.mbox
  · rw [Below.heap_setCell _ _ _ _ (by show w.heap.size + 1 ≠ g; omega), keep _ (by omega) hr]; exact h.rbox
  · exact ⟨hgr.os.trans h.only.os, hgr.tape.trans h.only.tape, hgr.output.trans h.only.output, by have := hgr.size; have := h.only.size; rw [size_set]; simp at *; omega, fun k hk hkg hkv => by
      rw [Below.heap_setCell _ _ _ _ hkg, keep k (by omega) hkv]; exact h.only.block k hk hkg hkv⟩
  · rcases hat with h | h
    · exact .inl h
    · exact .inr ⟨_, h, by simp; omega⟩
set_option maxHeartbeats 4000000 in
theorem next_beat (w : World) (g : Nat) (f t s seq time nt : Int) (v : Value) (l : List (Int × Int)) (h : Snd w g f t s seq time v l) (hl : l.length ≤ 1000) (h0 : 0 ≤ seq) (h1 : seq ≤ 1000) :
    Calls Tryd.prog 34 #[.pointer (some ⟨g, 0, none⟩), .agg #[.int .i64 0, .int .i64 0, .int .i64 0, .int .i64 0, .int .i64 nt, .bool true, .slice none 0 0, .int .i64 0, .slice none 0 0]] w fun e w' => ∃ v', e = .returned (.agg (beat9 f t s (seq + 1) nt).toArray) ∧ Snd w' g f t s (seq + 1) nt v' (l ++ [(seq + 1, nt)]) ∧ OnlyS g v w w' ∧ (v'.ownBlock = v.ownBlock ∨ ∃ b, v'.ownBlock = some b ∧ w.heap.size ≤ b) := by
  obtain ⟨i37, hi, hz0, hz1, hz2⟩ := info_parts Tryd.info37
  have hg := lt_of_heap h.box
  have H := hid h
  have HV : Hid (∀ b, v.ownBlock = some b → b < w.heap.size) := fun b hb => (h.row.lt b hb).2
  obtain ⟨av, cv, rfl⟩ := row_shape h.row
  have c0 := (cell_of (j := 0) h.box).trans rfl
  have c1 := (cell_of (j := 1) h.box).trans rfl
  have c2 := (cell_of (j := 2) h.box).trans rfl
  have c3 := (cell_of (j := 3) h.box).trans rfl
  have c4 := (cell_of (j := 4) h.box).trans rfl
  have c5 := (cell_of (j := 5) h.box).trans rfl
  have fz := fun j => free_of (j := j) h.box
  clear h
  go_enter Tryd.func34, Tryd.ntmps34
  go_upto_region 3 with (fail)
  go_region
  obtain ⟨w3, hw3⟩ : ∃ w3, w3 = ((((w.setCell ⟨g, 3, none⟩ (.int .i64 (seq + 1))).setCell ⟨g, 4, none⟩ (.int .i64 nt)).alloc (.cells #[.int .i64 f, .int .i64 t, .int .i64 s, .int .i64 (seq + 1), .int .i64 nt, .bool true, .slice none 0 0, .int .i64 0, .slice none 0 0] 37)).alloc (.cells #[.int .i64 0, .int .i64 0, .int .i64 0, .int .i64 0, .int .i64 0, .bool false, .slice none 0 0, .int .i64 0, .slice none 0 0] 37)).drew := ⟨_, rfl⟩
  rw [← hw3]
  have N3 : Hid (Nx w g f t s (seq + 1) nt (.slice av l.length cv) (.slice av l.length cv) l w3) := by
    rw [hw3]; exact Nx.start H.out (seq + 1)
  clear hw3 c0 c1 c2 c3 c4 c5 fz
  have p5 : w3.cell? ⟨g, 5, none⟩ = some (.slice av l.length cv) := (cell_of N3.out.snd.box).trans rfl
  have m0 : w3.cell? ⟨w.heap.size, 0, none⟩ = some (.int .i64 f) := (cell_of N3.out.mbox).trans rfl
  have m1 : w3.cell? ⟨w.heap.size, 1, none⟩ = some (.int .i64 t) := (cell_of N3.out.mbox).trans rfl
  have m2 : w3.cell? ⟨w.heap.size, 2, none⟩ = some (.int .i64 s) := (cell_of N3.out.mbox).trans rfl
  have m3 : w3.cell? ⟨w.heap.size, 3, none⟩ = some (.int .i64 (seq + 1)) := (cell_of N3.out.mbox).trans rfl
  have m4 : w3.cell? ⟨w.heap.size, 4, none⟩ = some (.int .i64 nt) := (cell_of N3.out.mbox).trans rfl
  have m5 : w3.cell? ⟨w.heap.size, 5, none⟩ = some (.bool true) := (cell_of N3.out.mbox).trans rfl
  have m6 : w3.cell? ⟨w.heap.size, 6, none⟩ = some (.slice none 0 0) := (cell_of N3.out.mbox).trans rfl
  have m7 : w3.cell? ⟨w.heap.size, 7, none⟩ = some (.int .i64 0) := (cell_of N3.out.mbox).trans rfl
  have m8 : w3.cell? ⟨w.heap.size, 8, none⟩ = some (.slice none 0 0) := (cell_of N3.out.mbox).trans rfl
  have KC := hid (copy_beat f t s (seq + 1) nt w3.drew)
  unfold beat9 at KC
  have hk2 : l.length + 1 ≤ maxLen := by unfold maxLen; omega
  have hk3 : (l.length + 1) * 104 ≤ 140737488355328 := by omega
  go_upto_region 4 with (fail)
  go_region_law (first
    | (refine step_append_at rfl _ _ 32 rfl (g + 1) 37 i37 _ 9 104 Tryd.underlying32 hi hz0 hz1 hz2 rfl (by decide) (.slice av l.length cv) l.length (beats f t s l) rfl (N8.out.snd.row.alloc _) _ 1 1 [.int .i64 f, .int .i64 t, .int .i64 s, .int .i64 (seq + 1), .int .i64 nt, .bool true, .slice none 0 0, .int .i64 0, .slice none 0 0] rfl rfl (cells3_new _ _ _) (one9 _ _ _ _ _) hk2 hk3 (hb8 _) ?_; intro v' w9 hrow hgr hat; obtain ⟨a9, cc9, hv9⟩ := row_shape hrow; subst hv9; obtain ⟨⟨c9, z9⟩, h9, hor⟩ := N8.out.more hg hrow hgr HV.out hat; have N9 := hid h9; have HOR := hid hor; clear hrow hgr h9 hor hat)
    | (go_simp; refine KC.out.mono ?_; rintro e w8 ⟨rfl, hb8'⟩; have N8 := hid (N3.out.moved (below_undrew hb8')); have q8 : w8.cell? ⟨g, 5, none⟩ = some (.slice av l.length cv) := (cell_of N8.out.snd.box).trans rfl; have q8a := (fun o => cell_alloc q8 o); have hb8 : ∀ o, g + 1 ≤ (w8.alloc o).heap.size := (fun o => by have := lt_of_heap N8.out.snd.box; simp; omega); clear hb8'))
  all_goals
    obtain ⟨wX, hX⟩ : ∃ wX, wX = w9.setCell ⟨g, 5, none⟩ (.slice a9 (l.length + 1) cc9) := ⟨_, rfl⟩
    rw [← hX] at N9 ⊢
    clear hX KC m0 m1 m2 m3 m4 m5 m6 m7 m8 p5 q8 q8a c9 z9
    have m0 : wX.cell? ⟨w.heap.size, 0, none⟩ = some (.int .i64 f) := (cell_of N9.out.mbox).trans rfl
    have m1 : wX.cell? ⟨w.heap.size, 1, none⟩ = some (.int .i64 t) := (cell_of N9.out.mbox).trans rfl
    have m2 : wX.cell? ⟨w.heap.size, 2, none⟩ = some (.int .i64 s) := (cell_of N9.out.mbox).trans rfl
    have m3 : wX.cell? ⟨w.heap.size, 3, none⟩ = some (.int .i64 (seq + 1)) := (cell_of N9.out.mbox).trans rfl
    have m4 : wX.cell? ⟨w.heap.size, 4, none⟩ = some (.int .i64 nt) := (cell_of N9.out.mbox).trans rfl
    have m5 : wX.cell? ⟨w.heap.size, 5, none⟩ = some (.bool true) := (cell_of N9.out.mbox).trans rfl
    have m6 : wX.cell? ⟨w.heap.size, 6, none⟩ = some (.slice none 0 0) := (cell_of N9.out.mbox).trans rfl
    have m7 : wX.cell? ⟨w.heap.size, 7, none⟩ = some (.int .i64 0) := (cell_of N9.out.mbox).trans rfl
    have m8 : wX.cell? ⟨w.heap.size, 8, none⟩ = some (.slice none 0 0) := (cell_of N9.out.mbox).trans rfl
    have KD := hid (copy_beat f t s (seq + 1) nt wX)
    unfold beat9 at KD
    go_wp2_with fail
    refine KD.out.mono ?_
    rintro e w11 ⟨rfl, hb11⟩
    have N11 := hid (N9.out.moved hb11)
    obtain ⟨wz, STORE, HZ⟩ := store_row N11.out.rbox [.int .i64 f, .int .i64 t, .int .i64 s, .int .i64 (seq + 1), .int .i64 nt, .bool true, .slice none 0 0, .int .i64 0, .slice none 0 0] rfl rfl 37 9 rfl Tryd.sizeOf37
    clear hb11
    go_wp2_with (refine STORE _ _ _ _ _ (.tmp 4) (.tmp 52) rfl rfl rfl rfl ?_)
    have hso : ∀ k, k ≠ w.heap.size + 1 → wz.heap[k]? = w11.heap[k]? := fun k hk => by rw [HZ.out.2]; exact setCells_other _ _ _ _ _ hk
    refine bodyPost_ret (ret_cell (k := 9) Tryd.results34 Tryd.isAgg37 Tryd.sizeOf37 _ _ (w.heap.size + 1) [.int .i64 f, .int .i64 t, .int .i64 s, .int .i64 (seq + 1), .int .i64 nt, .bool true, .slice none 0 0, .int .i64 0, .slice none 0 0] rfl rfl HZ.out.1) rfl ⟨.slice a9 (l.length + 1) cc9, rfl, ⟨?_, ?_⟩, ⟨?_, ?_, ?_, ?_, ?_⟩, ?_⟩
    · rw [hso g (by omega)]; exact N11.out.snd.box
    · refine owns_own N11.out.snd.row fun b hb => hso b fun e => ?_
      rcases HOR.out with h | ⟨b', h, hb'⟩
      · have := HV.out b (by rw [← h]; exact hb); omega
      · have h2 := hb.symm.trans h
        have h3 := Option.some.inj h2
        omega
    · have := below_setCells (B := 0) (b := w.heap.size + 1) (a := w11) (Nat.zero_le _) [.int .i64 f, .int .i64 t, .int .i64 s, .int .i64 (seq + 1), .int .i64 nt, .bool true, .slice none 0 0, .int .i64 0, .slice none 0 0] 0 (Below.refl _ _)
      rw [HZ.out.2]; exact this.os.trans N11.out.only.os
    · have := below_setCells (B := 0) (b := w.heap.size + 1) (a := w11) (Nat.zero_le _) [.int .i64 f, .int .i64 t, .int .i64 s, .int .i64 (seq + 1), .int .i64 nt, .bool true, .slice none 0 0, .int .i64 0, .slice none 0 0] 0 (Below.refl _ _)
      rw [HZ.out.2]; exact this.tape.trans N11.out.only.tape
    · have := below_setCells (B := 0) (b := w.heap.size + 1) (a := w11) (Nat.zero_le _) [.int .i64 f, .int .i64 t, .int .i64 s, .int .i64 (seq + 1), .int .i64 nt, .bool true, .slice none 0 0, .int .i64 0, .slice none 0 0] 0 (Below.refl _ _)
      rw [HZ.out.2]; exact this.output.trans N11.out.only.output
    · rw [HZ.out.2, setCells_size]; exact N11.out.only.size
    · exact fun k hk hkg hkv => by rw [hso k (by omega)]; exact N11.out.only.block k hk hkg hkv
    · rcases HOR.out with h | ⟨b', h, hb'⟩
      · exact .inl h
      · exact .inr ⟨b', h, by omega⟩
end Go.Proofs.YtcojglkjbbgoaaaDoor
namespace Go.Proofs.YtcojglkjbbgoaaaDoor
open Go.RowKit
set_option maxRecDepth 100000

theorem OnlyS.box {g : Nat} {v : Value} {w w' : World} (h : OnlyS g v w w') {k : Nat} {o : Obj} (hk : w.heap[k]? = some o) (hg : k ≠ g) (hv : v.ownBlock ≠ some k) : w'.heap[k]? = some o := by rw [h.block k (lt_of_heap hk) hg hv]; exact hk
set_option maxHeartbeats 4000000 in
theorem beat_ok (w : World) (g : Nat) (f t s seq time nt : Int) (v : Value) (l : List (Int × Int)) (h : Snd w g f t s seq time v l) (hl : l.length ≤ 1000) (h0 : 0 ≤ seq) (h1 : seq ≤ 1000) (ht0 : 0 ≤ nt) (ht1 : nt ≤ 1099511627776) (ht2 : time ≤ nt) :
    Calls Tryd.prog 10 #[.pointer (some ⟨g, 0, none⟩), .int .i64 nt] w fun e w' => ∃ v', e = .returned (.tuple #[.agg (beat9 f t s (seq + 1) nt).toArray, .nilIface]) ∧ Snd w' g f t s (seq + 1) nt v' (l ++ [(seq + 1, nt)]) ∧ OnlyS g v w w' ∧ (v'.ownBlock = v.ownBlock ∨ ∃ b, v'.ownBlock = some b ∧ w.heap.size ≤ b) := by
  obtain ⟨w0, hw0⟩ : ∃ w0, w0 = w.alloc (.cells #[.int .i64 0, .int .i64 0, .int .i64 0, .int .i64 0, .int .i64 0, .bool false, .slice none 0 0, .int .i64 0, .slice none 0 0] 37) := ⟨_, rfl⟩
  have hb0 : Below w.heap.size w w0 := by rw [hw0]; exact below_alloc _ _
  have G0 : Hid (w0.heap[w.heap.size]? = some (.cells #[.int .i64 0, .int .i64 0, .int .i64 0, .int .i64 0, .int .i64 0, .bool false, .slice none 0 0, .int .i64 0, .slice none 0 0] 37 (0, 0))) := by show w0.heap[w.heap.size]? = _; rw [hw0]; exact heap_new _ _
  have H0 := hid (h.moved hb0)
  have hg := lt_of_heap h.box
  have HV : Hid (∀ b, v.ownBlock = some b → b < w.heap.size) := fun b hb => (h.row.lt b hb).2
  have B0 := hid hb0
  have c4 : w0.cell? ⟨g, 4, none⟩ = some (.int .i64 time) := (cell_of H0.out.box).trans rfl
  have K33 := hid (fun W => isTime_yes nt W ht0 ht1)
  have K34 := hid (next_beat w0 g f t s seq time nt v l H0.out hl h0 h1)
  have hnt : ¬ nt < time := by omega
  clear h hb0
  go_enter Tryd.func10, Tryd.ntmps10
  go_wp2_with fail
  rw [← hw0]
  clear hw0
  refine (K33.out _).mono ?_
  rintro e w1 ⟨rfl, hww⟩
  rw [hww]
  clear hww
  go_wp2_with fail
  refine K34.out.mono ?_
  rintro e w2 ⟨v', rfl, hs2, ho2, hv2⟩
  have hG2 : w2.heap[w.heap.size]? = some (.cells #[.int .i64 0, .int .i64 0, .int .i64 0, .int .i64 0, .int .i64 0, .bool false, .slice none 0 0, .int .i64 0, .slice none 0 0] 37 (0, 0)) := ho2.box G0.out (by omega) fun e => by have := HV.out _ e; omega
  obtain ⟨wz, STORE, HZ⟩ := store_row hG2 [.int .i64 f, .int .i64 t, .int .i64 s, .int .i64 (seq + 1), .int .i64 nt, .bool true, .slice none 0 0, .int .i64 0, .slice none 0 0] rfl rfl 37 9 rfl Tryd.sizeOf37
  have S2 := hid hs2
  have O2 := hid ho2
  have V2 := hid hv2
  clear hs2 ho2 hv2 hG2
  unfold beat9
  go_wp2_with (refine STORE _ _ _ _ _ (.tmp 4) (.tmp 29) rfl rfl rfl rfl ?_)
  have hso : ∀ k, k ≠ w.heap.size → wz.heap[k]? = w2.heap[k]? := fun k hk => by rw [HZ.out.2]; exact setCells_other _ _ _ _ _ hk
  have hbz := below_setCells (B := 0) (b := w.heap.size) (a := w2) (Nat.zero_le _) [.int .i64 f, .int .i64 t, .int .i64 s, .int .i64 (seq + 1), .int .i64 nt, .bool true, .slice none 0 0, .int .i64 0, .slice none 0 0] 0 (Below.refl _ _)
  have hs0 : w0.heap.size ≤ w2.heap.size := O2.out.size
  have hsw := B0.out.size
  refine bodyPost_ret (ret_cell_tmp (k := 9) Tryd.results10 Tryd.isAgg37 Tryd.sizeOf37 _ _ w.heap.size [.int .i64 f, .int .i64 t, .int .i64 s, .int .i64 (seq + 1), .int .i64 nt, .bool true, .slice none 0 0, .int .i64 0, .slice none 0 0] _ rfl rfl rfl HZ.out.1) rfl ⟨v', rfl, ⟨?_, ?_⟩, ⟨?_, ?_, ?_, ?_, ?_⟩, ?_⟩
  · rw [hso g (by omega)]; exact S2.out.box
  · refine owns_own S2.out.row fun b hb => hso b fun e => ?_
    have hl0 := lt_of_heap G0.out
    rcases V2.out with h | ⟨b', h, hb'⟩
    · have := HV.out b (by rw [← h]; exact hb); omega
    · have h3 := Option.some.inj (hb.symm.trans h)
      omega
  · rw [HZ.out.2]; exact hbz.os.trans (O2.out.os.trans B0.out.os)
  · rw [HZ.out.2]; exact hbz.tape.trans (O2.out.tape.trans B0.out.tape)
  · rw [HZ.out.2]; exact hbz.output.trans (O2.out.output.trans B0.out.output)
  · rw [HZ.out.2, setCells_size]; omega
  · exact fun k hk hkg hkv => by rw [hso k (by omega), O2.out.block k (by omega) hkg hkv]; exact B0.out.block k hk
  · rcases V2.out with h | ⟨b', h, hb'⟩
    · exact .inl h
    · exact .inr ⟨b', h, by omega⟩
end Go.Proofs.YtcojglkjbbgoaaaDoor
