/- The sender's next: a beat; The sender's Beat; The sender's Again: beats; slices.Delete, from the front, of a row of beats of one's own; The sender's Acked. -/
import Derived.Test.YtfbbbigmgffjcaaDoorJSWay
import Derived.Deep.RegionLaw
import Derived.Maps.AppendAt
import Derived.Deep.Cut
namespace Go.Proofs.YtfbbbigmgffjcaaDoor
open Go.RowKit
set_option maxRecDepth 100000

/-- append to a row of one's own, as one step of a region that draws. -/
theorem step_append_at {ops : Array Oper} {o : Oper} {a : Act} {w : World} {K : Act → World → Prop} {Q : Exit → Act → World → Prop} {E : Prop} (hgd : o.guard = none) (s x : Operand) (t : TypeId)
    (ho : o.op = .call { callee := .builtin .append, args := #[s, x], argTypes := #[t, t] })
    (base : Nat) (e : TypeId) (i : TypeInfo) (z : Value) (size bytes : Nat) (ht : Tryd.prog.underlying t = some (.slice e)) (hi : Tryd.prog.info? e = some i) (hz : i.zero = some z)
    (hsize : i.size = size) (hby : i.bytes = bytes) (hzs : z.cells.size = size) (hsz : 0 < size)
    (v : Value) (n : Nat) (xs : List Value) (hs : a.eval s = v) (hown : w.ownsRow base e size v n xs)
    (ad : Addr) (m c : Nat) (news : List Value) (hx : a.eval x = .slice (some ad) m c) (hl : news.length = m * size) (hnews : ∀ j u, news[j]? = some u → w.cell? (ad.add j) = some u) (h1 : ∀ u ∈ news, u.oneCell' = true)
    (h63 : n + m ≤ maxLen) (hbytes : (n + m) * bytes ≤ 140737488355328) (hbase : base ≤ w.heap.size)
    (h : ∀ v' w', w'.ownsRow base e size v' (n + m) (xs ++ news) → w.grownBy w' v.ownBlock → (v'.ownBlock = v.ownBlock ∨ v'.ownBlock = some w.heap.size) → K (a.put o.dst v') w') :
    if Region.wanted o (yielded ops a.tmps) = true then Oper.wp Tryd.prog o a w K Q else E := by
  have hw : Region.wanted o (yielded ops a.tmps) = true := by simp [Region.wanted, hgd]
  rw [if_pos hw]
  obtain ⟨v', w', hr, h2, h3, _, h5⟩ := run_append_own_at (P := Tryd.prog) w base t o.type e i z size bytes ht hi hz hsize hby hzs hsz v n xs hown ad m c news hl hnews h1 h63 hbytes hbase
  unfold Oper.wp execOp
  simp only [ho, resolve, invoke, builtin, Sem.run_bind, Sem.run_pure, Result.andThen_ok, List.map_toArray, List.map_cons, List.map_nil, hs, hx, hr]
  exact h v' w' h2 h3 h5
theorem Tryd.info37 : (Tryd.prog.info? 37).map (fun i => (i.zero, i.size, i.bytes)) = some (some (.agg #[.int .i64 0, .int .i64 0, .int .i64 0, .int .i64 0, .int .i64 0, .bool false, .slice none 0 0, .int .i64 0, .slice none 0 0]), 9, 104) := by kernel_rfl
/-- The cells of a list of beats (number, time). -/
def beats (f t s : Int) (l : List (Int × Int)) : List Value := l.flatMap fun p => beat9 f t s p.1 p.2
/-- A sender that has sent l (number, time) and has it all unacked: its box, and a row of its own. -/
structure Snd (w : World) (g : Nat) (f t s seq time : Int) (v : Value) (l : List (Int × Int)) : Prop where
  box : w.heap[g]? = some (.cells #[.int .i64 f, .int .i64 t, .int .i64 s, .int .i64 seq, .int .i64 time, v] 86 (0, 0))
  row : w.ownsRow (g + 1) 37 9 v l.length (beats f t s l)
/-- Only block g, and the row v, may have turned. -/
structure OnlyS (g : Nat) (v : Value) (w w' : World) : Prop where
  os : w'.os = w.os
  tape : w'.tape = w.tape
  output : w'.output = w.output
  size : w.heap.size ≤ w'.heap.size
  block : ∀ k, k < w.heap.size → k ≠ g → v.ownBlock ≠ some k → w'.heap[k]? = w.heap[k]?
/-- A row of one's own stays as long as its own block does. -/
theorem owns_own {w w' : World} {base e size n : Nat} {v : Value} {xs : List Value} (h : w.ownsRow base e size v n xs) (hk : ∀ b, v.ownBlock = some b → w'.heap[b]? = w.heap[b]?) : w'.ownsRow base e size v n xs := by
  obtain ⟨h1, h2⟩ := h
  refine ⟨h1, ?_⟩
  rcases h2 with h2 | ⟨b, cap, cur, hv, hg, hh, r⟩
  · exact .inl h2
  · exact .inr ⟨b, cap, cur, hv, hg, by rw [hk b (by rw [hv]; rfl)]; exact hh, r⟩
theorem beats_snoc (f t s : Int) (l : List (Int × Int)) (p : Int × Int) : beats f t s (l ++ [p]) = beats f t s l ++ beat9 f t s p.1 p.2 := by
  unfold beats
  rw [List.flatMap_append]
  simp
theorem one9 (f t s seq time : Int) : ∀ u ∈ beat9 f t s seq time, u.oneCell' = true := fun u hu => by
  simp only [beat9, List.mem_cons, List.not_mem_nil, or_false] at hu
  rcases hu with rfl | rfl | rfl | rfl | rfl | rfl | rfl | rfl | rfl <;> rfl
/-- Inside next: the sender, the message's box and the result's. -/
structure Nx (w : World) (g : Nat) (f t s seq time : Int) (v0 v : Value) (l : List (Int × Int)) (w' : World) : Prop where
  snd : Snd w' g f t s seq time v l
  mbox : w'.heap[w.heap.size]? = some (.cells (beat9 f t s seq time).toArray 37 (0, 0))
  rbox : w'.heap[w.heap.size + 1]? = some (.cells #[.int .i64 0, .int .i64 0, .int .i64 0, .int .i64 0, .int .i64 0, .bool false, .slice none 0 0, .int .i64 0, .slice none 0 0] 37 (0, 0))
  only : OnlyS g v0 w w'
theorem Nx.size {w w' : World} {g : Nat} {f t s seq time : Int} {v0 v : Value} {l : List (Int × Int)} (h : Nx w g f t s seq time v0 v l w') : w.heap.size + 2 ≤ w'.heap.size := lt_of_heap h.rbox
theorem below_undrew {B : Nat} {w w' : World} (h : Below B w.drew w') : Below B w w' := ⟨h.os, h.tape, h.output, h.size, h.block⟩
theorem OnlyS.then {g : Nat} {v : Value} {w w1 w2 : World} (h : OnlyS g v w w1) (k : Below w1.heap.size w1 w2) : OnlyS g v w w2 :=
  ⟨k.os.trans h.os, k.tape.trans h.tape, k.output.trans h.output, Nat.le_trans h.size k.size, fun i hi hg hv => (k.block i (by have := h.size; omega)).trans (h.block i hi hg hv)⟩
theorem Snd.moved {w w' : World} {g : Nat} {f t s seq time : Int} {v : Value} {l : List (Int × Int)} (h : Snd w g f t s seq time v l) (hb : Below w.heap.size w w') : Snd w' g f t s seq time v l :=
  ⟨by rw [hb.block _ (lt_of_heap h.box)]; exact h.box, owns_at h.row fun k _ h2 => hb.block k h2⟩
theorem Nx.moved {w w1 w2 : World} {g : Nat} {f t s seq time : Int} {v0 v : Value} {l : List (Int × Int)} (h : Nx w g f t s seq time v0 v l w1) (hb : Below w1.heap.size w1 w2) : Nx w g f t s seq time v0 v l w2 := by
  have hs := h.size
  exact ⟨h.snd.moved hb, by rw [hb.block _ (by omega)]; exact h.mbox, by rw [hb.block _ (by omega)]; exact h.rbox, h.only.then hb⟩
theorem Nx.start {w : World} {g : Nat} {f t s seq time nt : Int} {v : Value} {l : List (Int × Int)} (h : Snd w g f t s seq time v l) (seq' : Int) :
    Nx w g f t s seq' nt v v l ((((w.setCell ⟨g, 3, none⟩ (.int .i64 seq')).setCell ⟨g, 4, none⟩ (.int .i64 nt)).alloc (.cells #[.int .i64 f, .int .i64 t, .int .i64 s, .int .i64 seq', .int .i64 nt, .bool true, .slice none 0 0, .int .i64 0, .slice none 0 0] 37)).alloc (.cells #[.int .i64 0, .int .i64 0, .int .i64 0, .int .i64 0, .int .i64 0, .bool false, .slice none 0 0, .int .i64 0, .slice none 0 0] 37)).drew := by
  have hg := lt_of_heap h.box
  have e0 : ((w.setCell ⟨g, 3, none⟩ (.int .i64 seq')).setCell ⟨g, 4, none⟩ (.int .i64 nt)).heap[g]? = some (.cells #[.int .i64 f, .int .i64 t, .int .i64 s, .int .i64 seq', .int .i64 nt, v] 86 (0, 0)) := by
    rw [heap_set (heap_set h.box _)]; rfl
  have hsz : ((w.setCell ⟨g, 3, none⟩ (.int .i64 seq')).setCell ⟨g, 4, none⟩ (.int .i64 nt)).heap.size = w.heap.size := by rw [size_set, size_set]
  have keep : ∀ k, k < w.heap.size → k ≠ g → ((((w.setCell ⟨g, 3, none⟩ (.int .i64 seq')).setCell ⟨g, 4, none⟩ (.int .i64 nt)).alloc (.cells #[.int .i64 f, .int .i64 t, .int .i64 s, .int .i64 seq', .int .i64 nt, .bool true, .slice none 0 0, .int .i64 0, .slice none 0 0] 37)).alloc (.cells #[.int .i64 0, .int .i64 0, .int .i64 0, .int .i64 0, .int .i64 0, .bool false, .slice none 0 0, .int .i64 0, .slice none 0 0] 37)).drew.heap[k]? = w.heap[k]? := fun k hk hkg => by
    rw [drew_heap, Below.heap_alloc _ _ _ (by rw [World.size_alloc, hsz]; omega), Below.heap_alloc _ _ _ (by rw [hsz]; omega), Below.heap_setCell _ _ _ _ hkg, Below.heap_setCell _ _ _ _ hkg]
  refine ⟨⟨?_, owns_at h.row fun k h1 h2 => keep k h2 (by omega)⟩, ?_, ?_, ⟨rfl, rfl, rfl, ?_, fun k hk hkg _ => keep k hk hkg⟩⟩
  · rw [drew_heap]
    exact heap_old (heap_old e0 _) _
  · rw [drew_heap]
    have := heap_new ((w.setCell ⟨g, 3, none⟩ (.int .i64 seq')).setCell ⟨g, 4, none⟩ (.int .i64 nt)) (.cells #[.int .i64 f, .int .i64 t, .int .i64 s, .int .i64 seq', .int .i64 nt, .bool true, .slice none 0 0, .int .i64 0, .slice none 0 0] 37)
    rw [hsz] at this
    exact heap_old this _
  · rw [drew_heap]
    have := heap_new2 ((w.setCell ⟨g, 3, none⟩ (.int .i64 seq')).setCell ⟨g, 4, none⟩ (.int .i64 nt)) (.cells #[.int .i64 f, .int .i64 t, .int .i64 s, .int .i64 seq', .int .i64 nt, .bool true, .slice none 0 0, .int .i64 0, .slice none 0 0] 37) (.cells #[.int .i64 0, .int .i64 0, .int .i64 0, .int .i64 0, .int .i64 0, .bool false, .slice none 0 0, .int .i64 0, .slice none 0 0] 37)
    rwa [hsz] at this
  · rw [drew_heap, World.size_alloc, World.size_alloc, hsz]; omega
/-- The copy is put behind the others. -/
theorem Nx.more {w w1 w2 : World} {g : Nat} {f t s seq time : Int} {v v' : Value} {l : List (Int × Int)} (h : Nx w g f t s seq time v v l w1) (hg : g < w.heap.size) {o' : Obj} (hn : w2.ownsRow (g + 1) 37 9 v' (l.length + 1) (beats f t s l ++ beat9 f t s seq time)) (hgr : (w1.alloc o').grownBy w2 v.ownBlock) (hv : ∀ b, v.ownBlock = some b → b < w.heap.size) (hat : v'.ownBlock = v.ownBlock ∨ v'.ownBlock = some (w1.alloc o').heap.size) :
    (w2.cell? ⟨g, 5, none⟩ = some v ∧ w2.frozen? ⟨g, 5, none⟩ = false) ∧ Nx w g f t s seq time v v' (l ++ [(seq, time)]) (w2.setCell ⟨g, 5, none⟩ v') ∧ (v'.ownBlock = v.ownBlock ∨ ∃ b, v'.ownBlock = some b ∧ w.heap.size + 2 ≤ b) := by
  have hs := h.size
  have keep : ∀ k, k < w1.heap.size → v.ownBlock ≠ some k → w2.heap[k]? = w1.heap[k]? := fun k hk hkv => by
    rw [hgr.block k (by simp; omega) hkv.symm, Below.heap_alloc _ _ _ hk]
  have hgv : v.ownBlock ≠ some g := fun e => by have := (h.snd.row.lt g e).1; omega
  have e0 := (keep g (by omega) hgv).trans h.snd.box
  have hm : v.ownBlock ≠ some w.heap.size := fun e => by have := hv _ e; omega
  have hr : v.ownBlock ≠ some (w.heap.size + 1) := fun e => by have := hv _ e; omega
  refine ⟨⟨(cell_of e0).trans rfl, free_of e0⟩, ⟨⟨by rw [heap_set e0]; rfl, ?_⟩, ?_, ?_, ?_⟩, ?_⟩
  · rw [beats_snoc, List.length_append]
    exact owns_at hn fun k h1 _ => Below.heap_setCell _ _ _ _ (by show k ≠ g; omega)
  · rw [Below.heap_setCell _ _ _ _ (by show w.heap.size ≠ g; omega), keep _ (by omega) hm]; exact h.mbox
  · rw [Below.heap_setCell _ _ _ _ (by show w.heap.size + 1 ≠ g; omega), keep _ (by omega) hr]; exact h.rbox
  · exact ⟨hgr.os.trans h.only.os, hgr.tape.trans h.only.tape, hgr.output.trans h.only.output, by have := hgr.size; have := h.only.size; rw [size_set]; simp at *; omega, fun k hk hkg hkv => by
      rw [Below.heap_setCell _ _ _ _ hkg, keep k (by omega) hkv]; exact h.only.block k hk hkg hkv⟩
  · rcases hat with h | h
    · exact .inl h
    · exact .inr ⟨_, h, by simp; omega⟩
set_option maxHeartbeats 4000000 in
theorem next_beat (w : World) (g : Nat) (f t s seq time nt : Int) (v : Value) (l : List (Int × Int)) (h : Snd w g f t s seq time v l) (hl : l.length ≤ 1000) (h0 : 0 ≤ seq) (h1 : seq ≤ 1000) :
    Calls Tryd.prog 34 #[.pointer (some ⟨g, 0, none⟩), .agg #[.int .i64 0, .int .i64 0, .int .i64 0, .int .i64 0, .int .i64 nt, .bool true, .slice none 0 0, .int .i64 0, .slice none 0 0]] w fun e w' => ∃ v', e = .returned (.agg (beat9 f t s (seq + 1) nt).toArray) ∧ Snd w' g f t s (seq + 1) nt v' (l ++ [(seq + 1, nt)]) ∧ OnlyS g v w w' ∧ (v'.ownBlock = v.ownBlock ∨ ∃ b, v'.ownBlock = some b ∧ w.heap.size ≤ b) := by
  obtain ⟨i37, hi, hz0, hz1, hz2⟩ := info_parts Tryd.info37
  have hg := lt_of_heap h.box
  have H := hid h
  have HV : Hid (∀ b, v.ownBlock = some b → b < w.heap.size) := fun b hb => (h.row.lt b hb).2
  obtain ⟨av, cv, rfl⟩ := row_shape h.row
  have c0 := (cell_of (j := 0) h.box).trans rfl
  have c1 := (cell_of (j := 1) h.box).trans rfl
  have c2 := (cell_of (j := 2) h.box).trans rfl
  have c3 := (cell_of (j := 3) h.box).trans rfl
  have c4 := (cell_of (j := 4) h.box).trans rfl
  have c5 := (cell_of (j := 5) h.box).trans rfl
  have fz := fun j => free_of (j := j) h.box
  clear h
  go_enter Tryd.func34, Tryd.ntmps34
  go_upto_region 3 with (fail)
  go_region
  obtain ⟨w3, hw3⟩ : ∃ w3, w3 = ((((w.setCell ⟨g, 3, none⟩ (.int .i64 (seq + 1))).setCell ⟨g, 4, none⟩ (.int .i64 nt)).alloc (.cells #[.int .i64 f, .int .i64 t, .int .i64 s, .int .i64 (seq + 1), .int .i64 nt, .bool true, .slice none 0 0, .int .i64 0, .slice none 0 0] 37)).alloc (.cells #[.int .i64 0, .int .i64 0, .int .i64 0, .int .i64 0, .int .i64 0, .bool false, .slice none 0 0, .int .i64 0, .slice none 0 0] 37)).drew := ⟨_, rfl⟩
  rw [← hw3]
  have N3 : Hid (Nx w g f t s (seq + 1) nt (.slice av l.length cv) (.slice av l.length cv) l w3) := by
    rw [hw3]; exact Nx.start H.out (seq + 1)
  clear hw3 c0 c1 c2 c3 c4 c5 fz
  have p5 : w3.cell? ⟨g, 5, none⟩ = some (.slice av l.length cv) := (cell_of N3.out.snd.box).trans rfl
  have m0 : w3.cell? ⟨w.heap.size, 0, none⟩ = some (.int .i64 f) := (cell_of N3.out.mbox).trans rfl
  have m1 : w3.cell? ⟨w.heap.size, 1, none⟩ = some (.int .i64 t) := (cell_of N3.out.mbox).trans rfl
  have m2 : w3.cell? ⟨w.heap.size, 2, none⟩ = some (.int .i64 s) := (cell_of N3.out.mbox).trans rfl
  have m3 : w3.cell? ⟨w.heap.size, 3, none⟩ = some (.int .i64 (seq + 1)) := (cell_of N3.out.mbox).trans rfl
  have m4 : w3.cell? ⟨w.heap.size, 4, none⟩ = some (.int .i64 nt) := (cell_of N3.out.mbox).trans rfl
  have m5 : w3.cell? ⟨w.heap.size, 5, none⟩ = some (.bool true) := (cell_of N3.out.mbox).trans rfl
  have m6 : w3.cell? ⟨w.heap.size, 6, none⟩ = some (.slice none 0 0) := (cell_of N3.out.mbox).trans rfl
  have m7 : w3.cell? ⟨w.heap.size, 7, none⟩ = some (.int .i64 0) := (cell_of N3.out.mbox).trans rfl
  have m8 : w3.cell? ⟨w.heap.size, 8, none⟩ = some (.slice none 0 0) := (cell_of N3.out.mbox).trans rfl
  have KC := hid (copy_beat f t s (seq + 1) nt w3.drew)
  unfold beat9 at KC
  have hk2 : l.length + 1 ≤ maxLen := by unfold maxLen; omega
  have hk3 : (l.length + 1) * 104 ≤ 140737488355328 := by omega
  go_upto_region 4 with (fail)
  go_region_law (first
    | (refine step_append_at rfl _ _ 32 rfl (g + 1) 37 i37 _ 9 104 Tryd.underlying32 hi hz0 hz1 hz2 rfl (by decide) (.slice av l.length cv) l.length (beats f t s l) rfl (N8.out.snd.row.alloc _) _ 1 1 [.int .i64 f, .int .i64 t, .int .i64 s, .int .i64 (seq + 1), .int .i64 nt, .bool true, .slice none 0 0, .int .i64 0, .slice none 0 0] rfl rfl (cells3_new _ _ _) (one9 _ _ _ _ _) hk2 hk3 (hb8 _) ?_; intro v' w9 hrow hgr hat; obtain ⟨a9, cc9, hv9⟩ := row_shape hrow; subst hv9; obtain ⟨⟨c9, z9⟩, h9, hor⟩ := N8.out.more hg hrow hgr HV.out hat; have N9 := hid h9; have HOR := hid hor; clear hrow hgr h9 hor hat)
    | (go_simp; refine KC.out.mono ?_; rintro e w8 ⟨rfl, hb8'⟩; have N8 := hid (N3.out.moved (below_undrew hb8')); have q8 : w8.cell? ⟨g, 5, none⟩ = some (.slice av l.length cv) := (cell_of N8.out.snd.box).trans rfl; have q8a := (fun o => cell_alloc q8 o); have hb8 : ∀ o, g + 1 ≤ (w8.alloc o).heap.size := (fun o => by have := lt_of_heap N8.out.snd.box; simp; omega); clear hb8'))
  all_goals
    obtain ⟨wX, hX⟩ : ∃ wX, wX = w9.setCell ⟨g, 5, none⟩ (.slice a9 (l.length + 1) cc9) := ⟨_, rfl⟩
    rw [← hX] at N9 ⊢
    clear hX KC m0 m1 m2 m3 m4 m5 m6 m7 m8 p5 q8 q8a c9 z9
    have m0 : wX.cell? ⟨w.heap.size, 0, none⟩ = some (.int .i64 f) := (cell_of N9.out.mbox).trans rfl
    have m1 : wX.cell? ⟨w.heap.size, 1, none⟩ = some (.int .i64 t) := (cell_of N9.out.mbox).trans rfl
    have m2 : wX.cell? ⟨w.heap.size, 2, none⟩ = some (.int .i64 s) := (cell_of N9.out.mbox).trans rfl
    have m3 : wX.cell? ⟨w.heap.size, 3, none⟩ = some (.int .i64 (seq + 1)) := (cell_of N9.out.mbox).trans rfl
    have m4 : wX.cell? ⟨w.heap.size, 4, none⟩ = some (.int .i64 nt) := (cell_of N9.out.mbox).trans rfl
    have m5 : wX.cell? ⟨w.heap.size, 5, none⟩ = some (.bool true) := (cell_of N9.out.mbox).trans rfl
    have m6 : wX.cell? ⟨w.heap.size, 6, none⟩ = some (.slice none 0 0) := (cell_of N9.out.mbox).trans rfl
    have m7 : wX.cell? ⟨w.heap.size, 7, none⟩ = some (.int .i64 0) := (cell_of N9.out.mbox).trans rfl
    have m8 : wX.cell? ⟨w.heap.size, 8, none⟩ = some (.slice none 0 0) := (cell_of N9.out.mbox).trans rfl
    have KD := hid (copy_beat f t s (seq + 1) nt wX)
    unfold beat9 at KD
    go_wp2_with fail
    refine KD.out.mono ?_
    rintro e w11 ⟨rfl, hb11⟩
    have N11 := hid (N9.out.moved hb11)
    obtain ⟨wz, STORE, HZ⟩ := store_row N11.out.rbox [.int .i64 f, .int .i64 t, .int .i64 s, .int .i64 (seq + 1), .int .i64 nt, .bool true, .slice none 0 0, .int .i64 0, .slice none 0 0] rfl rfl 37 9 rfl Tryd.sizeOf37
    clear hb11
    go_wp2_with (refine STORE _ _ _ _ _ (.tmp 4) (.tmp 52) rfl rfl rfl rfl ?_)
    have hso : ∀ k, k ≠ w.heap.size + 1 → wz.heap[k]? = w11.heap[k]? := fun k hk => by rw [HZ.out.2]; exact setCells_other _ _ _ _ _ hk
    refine bodyPost_ret (ret_cell (k := 9) Tryd.results34 Tryd.isAgg37 Tryd.sizeOf37 _ _ (w.heap.size + 1) [.int .i64 f, .int .i64 t, .int .i64 s, .int .i64 (seq + 1), .int .i64 nt, .bool true, .slice none 0 0, .int .i64 0, .slice none 0 0] rfl rfl HZ.out.1) rfl ⟨.slice a9 (l.length + 1) cc9, rfl, ⟨?_, ?_⟩, ⟨?_, ?_, ?_, ?_, ?_⟩, ?_⟩
    · rw [hso g (by omega)]; exact N11.out.snd.box
    · refine owns_own N11.out.snd.row fun b hb => hso b fun e => ?_
      rcases HOR.out with h | ⟨b', h, hb'⟩
      · have := HV.out b (by rw [← h]; exact hb); omega
      · have h2 := hb.symm.trans h
        have h3 := Option.some.inj h2
        omega
    · have := below_setCells (B := 0) (b := w.heap.size + 1) (a := w11) (Nat.zero_le _) [.int .i64 f, .int .i64 t, .int .i64 s, .int .i64 (seq + 1), .int .i64 nt, .bool true, .slice none 0 0, .int .i64 0, .slice none 0 0] 0 (Below.refl _ _)
      rw [HZ.out.2]; exact this.os.trans N11.out.only.os
    · have := below_setCells (B := 0) (b := w.heap.size + 1) (a := w11) (Nat.zero_le _) [.int .i64 f, .int .i64 t, .int .i64 s, .int .i64 (seq + 1), .int .i64 nt, .bool true, .slice none 0 0, .int .i64 0, .slice none 0 0] 0 (Below.refl _ _)
      rw [HZ.out.2]; exact this.tape.trans N11.out.only.tape
    · have := below_setCells (B := 0) (b := w.heap.size + 1) (a := w11) (Nat.zero_le _) [.int .i64 f, .int .i64 t, .int .i64 s, .int .i64 (seq + 1), .int .i64 nt, .bool true, .slice none 0 0, .int .i64 0, .slice none 0 0] 0 (Below.refl _ _)
      rw [HZ.out.2]; exact this.output.trans N11.out.only.output
    · rw [HZ.out.2, setCells_size]; exact N11.out.only.size
    · exact fun k hk hkg hkv => by rw [hso k (by omega)]; exact N11.out.only.block k hk hkg hkv
    · rcases HOR.out with h | ⟨b', h, hb'⟩
      · exact .inl h
      · exact .inr ⟨b', h, by omega⟩
end Go.Proofs.YtfbbbigmgffjcaaDoor
namespace Go.Proofs.YtfbbbigmgffjcaaDoor
open Go.RowKit
set_option maxRecDepth 100000

theorem OnlyS.box {g : Nat} {v : Value} {w w' : World} (h : OnlyS g v w w') {k : Nat} {o : Obj} (hk : w.heap[k]? = some o) (hg : k ≠ g) (hv : v.ownBlock ≠ some k) : w'.heap[k]? = some o := by rw [h.block k (lt_of_heap hk) hg hv]; exact hk
set_option maxHeartbeats 4000000 in
theorem beat_ok (w : World) (g : Nat) (f t s seq time nt : Int) (v : Value) (l : List (Int × Int)) (h : Snd w g f t s seq time v l) (hl : l.length ≤ 1000) (h0 : 0 ≤ seq) (h1 : seq ≤ 1000) (ht0 : 0 ≤ nt) (ht1 : nt ≤ 1099511627776) (ht2 : time ≤ nt) :
    Calls Tryd.prog 10 #[.pointer (some ⟨g, 0, none⟩), .int .i64 nt] w fun e w' => ∃ v', e = .returned (.tuple #[.agg (beat9 f t s (seq + 1) nt).toArray, .nilIface]) ∧ Snd w' g f t s (seq + 1) nt v' (l ++ [(seq + 1, nt)]) ∧ OnlyS g v w w' ∧ (v'.ownBlock = v.ownBlock ∨ ∃ b, v'.ownBlock = some b ∧ w.heap.size ≤ b) := by
  obtain ⟨w0, hw0⟩ : ∃ w0, w0 = w.alloc (.cells #[.int .i64 0, .int .i64 0, .int .i64 0, .int .i64 0, .int .i64 0, .bool false, .slice none 0 0, .int .i64 0, .slice none 0 0] 37) := ⟨_, rfl⟩
  have hb0 : Below w.heap.size w w0 := by rw [hw0]; exact below_alloc _ _
  have G0 : Hid (w0.heap[w.heap.size]? = some (.cells #[.int .i64 0, .int .i64 0, .int .i64 0, .int .i64 0, .int .i64 0, .bool false, .slice none 0 0, .int .i64 0, .slice none 0 0] 37 (0, 0))) := by show w0.heap[w.heap.size]? = _; rw [hw0]; exact heap_new _ _
  have H0 := hid (h.moved hb0)
  have hg := lt_of_heap h.box
  have HV : Hid (∀ b, v.ownBlock = some b → b < w.heap.size) := fun b hb => (h.row.lt b hb).2
  have B0 := hid hb0
  have c4 : w0.cell? ⟨g, 4, none⟩ = some (.int .i64 time) := (cell_of H0.out.box).trans rfl
  have K33 := hid (fun W => isTime_yes nt W ht0 ht1)
  have K34 := hid (next_beat w0 g f t s seq time nt v l H0.out hl h0 h1)
  have hnt : ¬ nt < time := by omega
  clear h hb0
  go_enter Tryd.func10, Tryd.ntmps10
  go_wp2_with fail
  rw [← hw0]
  clear hw0
  refine (K33.out _).mono ?_
  rintro e w1 ⟨rfl, hww⟩
  rw [hww]
  clear hww
  go_wp2_with fail
  refine K34.out.mono ?_
  rintro e w2 ⟨v', rfl, hs2, ho2, hv2⟩
  have hG2 : w2.heap[w.heap.size]? = some (.cells #[.int .i64 0, .int .i64 0, .int .i64 0, .int .i64 0, .int .i64 0, .bool false, .slice none 0 0, .int .i64 0, .slice none 0 0] 37 (0, 0)) := ho2.box G0.out (by omega) fun e => by have := HV.out _ e; omega
  obtain ⟨wz, STORE, HZ⟩ := store_row hG2 [.int .i64 f, .int .i64 t, .int .i64 s, .int .i64 (seq + 1), .int .i64 nt, .bool true, .slice none 0 0, .int .i64 0, .slice none 0 0] rfl rfl 37 9 rfl Tryd.sizeOf37
  have S2 := hid hs2
  have O2 := hid ho2
  have V2 := hid hv2
  clear hs2 ho2 hv2 hG2
  unfold beat9
  go_wp2_with (refine STORE _ _ _ _ _ (.tmp 4) (.tmp 29) rfl rfl rfl rfl ?_)
  have hso : ∀ k, k ≠ w.heap.size → wz.heap[k]? = w2.heap[k]? := fun k hk => by rw [HZ.out.2]; exact setCells_other _ _ _ _ _ hk
  have hbz := below_setCells (B := 0) (b := w.heap.size) (a := w2) (Nat.zero_le _) [.int .i64 f, .int .i64 t, .int .i64 s, .int .i64 (seq + 1), .int .i64 nt, .bool true, .slice none 0 0, .int .i64 0, .slice none 0 0] 0 (Below.refl _ _)
  have hs0 : w0.heap.size ≤ w2.heap.size := O2.out.size
  have hsw := B0.out.size
  refine bodyPost_ret (ret_cell_tmp (k := 9) Tryd.results10 Tryd.isAgg37 Tryd.sizeOf37 _ _ w.heap.size [.int .i64 f, .int .i64 t, .int .i64 s, .int .i64 (seq + 1), .int .i64 nt, .bool true, .slice none 0 0, .int .i64 0, .slice none 0 0] _ rfl rfl rfl HZ.out.1) rfl ⟨v', rfl, ⟨?_, ?_⟩, ⟨?_, ?_, ?_, ?_, ?_⟩, ?_⟩
  · rw [hso g (by omega)]; exact S2.out.box
  · refine owns_own S2.out.row fun b hb => hso b fun e => ?_
    have hl0 := lt_of_heap G0.out
    rcases V2.out with h | ⟨b', h, hb'⟩
    · have := HV.out b (by rw [← h]; exact hb); omega
    · have h3 := Option.some.inj (hb.symm.trans h)
      omega
  · rw [HZ.out.2]; exact hbz.os.trans (O2.out.os.trans B0.out.os)
  · rw [HZ.out.2]; exact hbz.tape.trans (O2.out.tape.trans B0.out.tape)
  · rw [HZ.out.2]; exact hbz.output.trans (O2.out.output.trans B0.out.output)
  · rw [HZ.out.2, setCells_size]; omega
  · exact fun k hk hkg hkv => by rw [hso k (by omega), O2.out.block k (by omega) hkg hkv]; exact B0.out.block k hk
  · rcases V2.out with h | ⟨b', h, hb'⟩
    · exact .inl h
    · exact .inr ⟨b', h, by omega⟩
end Go.Proofs.YtfbbbigmgffjcaaDoor
namespace Go.Proofs.YtfbbbigmgffjcaaDoor
open Go.RowKit
set_option maxRecDepth 100000

theorem beats_at : ∀ (f t s : Int) (l : List (Int × Int)) (k : Nat) (p : Int × Int), l[k]? = some p → ∀ j, j < 9 → (beats f t s l)[k * 9 + j]? = (beat9 f t s p.1 p.2)[j]?
  | _, _, _, [], _, _, h, _, _ => by simp at h
  | f, t, s, x :: l, 0, p, h, j, hj => by
    simp at h
    subst h
    unfold beats
    rw [List.flatMap_cons, List.getElem?_append_left (by show 0 * 9 + j < 9; omega), Nat.zero_mul, Nat.zero_add]
  | f, t, s, x :: l, k + 1, p, h, j, hj => by
    have := beats_at f t s l k p (by simpa using h) j hj
    unfold beats at this ⊢
    rw [List.flatMap_cons, List.getElem?_append_right (by show 9 ≤ _; omega), show (k + 1) * 9 + j - (beat9 f t s x.1 x.2).length = k * 9 + j by show (k + 1) * 9 + j - 9 = _; omega]
    exact this
/-- The cells of the beat k of a row of beats. -/
theorem row_beat {w : World} {base : Nat} {a : Option Addr} {n c : Nat} {f t s : Int} {l : List (Int × Int)} (h : w.ownsRow base 37 9 (.slice a n c) l.length (beats f t s l)) {k : Nat} {p : Int × Int} (hk : l[k]? = some p) :
    ∃ b, a = some ⟨b, 0, none⟩ ∧ (Value.slice a n c).ownBlock = some b ∧ ∀ j u, (beat9 f t s p.1 p.2)[j]? = some u → w.cell? ⟨b, k * 9 + j, none⟩ = some u := by
  have hkl : k < l.length := (List.getElem?_eq_some_iff.1 hk).1
  rcases h.2 with ⟨h1, h0⟩ | ⟨b, cap, cur, hv, _, hh, hc, _, hs, ht⟩
  · omega
  · injection hv with hv _ _
    subst hv
    refine ⟨b, rfl, rfl, fun j u hu => ?_⟩
    have hj : j < 9 := (List.getElem?_eq_some_iff.1 hu).1
    have e := (beats_at f t s l k p hk j hj).trans hu
    have hb : k * 9 + j < l.length * 9 := by omega
    rw [← ht, List.getElem?_take, if_pos hb, Array.getElem?_toList] at e
    rw [cell_of hh]
    exact e
set_option maxHeartbeats 4000000 in
theorem again_ok (w : World) (g : Nat) (f t s seq time : Int) (v : Value) (l : List (Int × Int)) (h : Snd w g f t s seq time v l) (hl : l.length ≤ 1000) :
    Calls Tryd.prog 14 #[.pointer (some ⟨g, 0, none⟩)] w fun e w' => ∃ v', e = .returned v' ∧ w'.ownsRow w.heap.size 37 9 v' l.length (beats f t s l) ∧ Below w.heap.size w w' := by
  obtain ⟨i37, hi, hz0, hz1, hz2⟩ := info_parts Tryd.info37
  have H := hid h
  obtain ⟨av, cv, rfl⟩ := row_shape h.row
  have c5 : w.cell? ⟨g, 5, none⟩ = some (.slice av l.length cv) := (cell_of h.box).trans rfl
  obtain ⟨n, hn⟩ : ∃ n, n = l.length := ⟨_, rfl⟩
  rw [← hn] at c5 hl
  have HN := hid hn
  clear h hn
  go_enter Tryd.func14, Tryd.ntmps14
  go_wp2
  go_loopw [3, 13] (fun x i wr => ∃ (k : Nat) (xv : Value), k ≤ n ∧ i = .int .i64 k ∧ x = xv ∧ Hid (wr.ownsRow w.heap.size 37 9 xv (l.take k).length (beats f t s (l.take k))) ∧ Hid (Below w.heap.size w wr)) (fun _ i _ => n - (intOf i).toNat)
  case atStart => exact ⟨0, _, Nat.zero_le _, rfl, rfl, World.ownsRow_nil _ _ _ _, Below.refl _ _⟩
  case round =>
    obtain ⟨k, xv, hk, rfl, rfl, HX, HR⟩ := hrel
    by_cases hlt : k < n
    · obtain ⟨⟨ps, pt⟩, hp⟩ : ∃ p, l[k]? = some p := ⟨_, List.getElem?_eq_getElem (by rw [← HN.out]; exact hlt)⟩
      obtain ⟨b, rfl, _, hcell⟩ := row_beat H.out.row hp
      have up : ∀ j u, (beat9 f t s ps pt)[j]? = some u → wr.cell? ⟨b, k * 9 + j, none⟩ = some u := fun j u hu => by
        have e := hcell j u hu
        rw [HR.out.cell (p := ⟨b, k * 9 + j, none⟩) (lt_of_cell e)]; exact e
      have e0 : wr.cell? ⟨b, k * 9, none⟩ = some (.int .i64 f) := up 0 (.int .i64 f) rfl
      have e1 := up 1 (.int .i64 t) rfl
      have e2 := up 2 (.int .i64 s) rfl
      have e3 := up 3 (.int .i64 ps) rfl
      have e4 := up 4 (.int .i64 pt) rfl
      have e5 := up 5 (.bool true) rfl
      have e6 := up 6 (.slice none 0 0) rfl
      have e7 := up 7 (.int .i64 0) rfl
      have e8 := up 8 (.slice none 0 0) rfl
      have HT : Hid (l.take (k + 1) = l.take k ++ [(ps, pt)]) := by
        show _ = _
        obtain ⟨hk1, hk2⟩ := List.getElem?_eq_some_iff.1 hp
        rw [List.take_succ_eq_append_getElem hk1, hk2]
      have hkt : Hid ((l.take k).length = k) := by show _ = _; rw [List.length_take, ← HN.out]; omega
      obtain ⟨xa, xc, hxv⟩ := row_shape HX.out
      rw [hkt.out] at hxv HX
      subst hxv
      have hi1 : (k : Int) < (n : Int) := by omega
      clear up hcell hp
      obtain ⟨w5, hw5⟩ : ∃ w5, w5 = wr.alloc (.cells #[.int .i64 f, .int .i64 t, .int .i64 s, .int .i64 ps, .int .i64 pt, .bool true, .slice none 0 0, .int .i64 0, .slice none 0 0] 37) := ⟨_, rfl⟩
      have KC := hid (copy_beat f t s ps pt w5)
      unfold beat9 at KC
      have hb5 : Below wr.heap.size wr w5 := by rw [hw5]; exact below_alloc _ _
      go_wp2_with fail
      rw [← hw5]
      refine KC.out.mono ?_
      rintro e w8 ⟨rfl, hb8⟩
      have hbr : Below wr.heap.size wr w8 := hb5.trans (hb8.mono hb5.size)
      have X8 := hid (owns_at HX.out fun q _ h2 => hbr.block q h2)
      have B8 := hid (HR.out.trans (hbr.mono HR.out.size))
      clear hw5 KC hb5 hb8 hbr e0 e1 e2 e3 e4 e5 e6 e7 e8
      go_wp2_with (at_builtin; refine wpList_append_own _ rfl _ _ 32 rfl w.heap.size 37 i37 _ 9 104 Tryd.underlying32 hi hz0 hz1 hz2 rfl (by decide) _ _ _ rfl (X8.out.alloc _) ⟨w8.heap.size, 0, none⟩ 1 1 [.int .i64 f, .int .i64 t, .int .i64 s, .int .i64 ps, .int .i64 pt, .bool true, .slice none 0 0, .int .i64 0, .slice none 0 0] rfl rfl (cells3_new _ _ _) (one9 _ _ _ _ _) ?hm2 ?hm3 ?hm4 ?_; (case hm2 => unfold maxLen; omega); (case hm3 => omega); (case hm4 => have := B8.out.size; simp; omega); intro v9 w9 hown9 hgr9 _; have B9 : Hid (Below w.heap.size w w9) := (show Below _ _ _ from ⟨hgr9.os.trans B8.out.os, hgr9.tape.trans B8.out.tape, hgr9.output.trans B8.out.output, by have := hgr9.size; have := B8.out.size; simp at *; omega, fun q hq => by rw [hgr9.block q (by have := B8.out.size; simp; omega) (fun e => by have := (X8.out.lt q e.symm).1; omega), Below.heap_alloc _ _ _ (by have := B8.out.size; omega)]; exact B8.out.block q hq⟩); have X9 := hid hown9; clear hown9 hgr9)
      refine ⟨⟨k + 1, _, by omega, by go_num, rfl, ?_, B9.out⟩, by simp [intOf]; omega⟩
      show World.ownsRow _ _ _ _ _ _ _
      rw [HT.out, beats_snoc, List.length_append, hkt.out]
      exact X9.out
    · obtain rfl : k = n := by omega
      have HT : Hid (l.take k = l) := List.take_of_length_le (by rw [← HN.out]; omega)
      rw [HT.out] at HX
      go_wp2
      go_ret
      exact ⟨_, rfl, HX.out, HR.out⟩
end Go.Proofs.YtfbbbigmgffjcaaDoor
namespace Go.Proofs.YtfbbbigmgffjcaaDoor
open Go.RowKit
set_option maxRecDepth 100000

theorem run_clear_k (w : World) (t e ty : TypeId) (z : Value) (ht : Tryd.prog.underlying t = some (.slice e)) (hv : ∀ w, (zeroValue e).run Tryd.prog w = .ok z w) (b o n c : Nat) (hn : 0 < n) (vs : List Value) (hvs : (Builtin.zeroCells z.cells n).toList = vs) (h1 : ∀ v ∈ vs, v.oneCell' = true)
    (hc : ∀ j, j < vs.length → (w.cell? ⟨b, o + j, none⟩).isSome = true) (hf : ∀ j, j < vs.length → w.frozen? ⟨b, o + j, none⟩ = false) :
    (Builtin.clear_ #[t] ty #[.slice (some ⟨b, o, none⟩) n c]).run Tryd.prog w = .ok (.tuple #[]) (w.setCells b o vs) := by
  have hst := run_storeCells_cells (P := Tryd.prog) b o vs 0 w (by simpa using hc) (by simpa using hf) h1
  simp only [Nat.add_zero] at hst
  obtain ⟨m, rfl⟩ : ∃ m, n = m + 1 := ⟨n - 1, by omega⟩
  simp [Builtin.clear_, run_underlying ht, hv, hvs, hst]
/-- What a row holds once cells are laid over it. -/
theorem row_sets {e : TypeId} {b : Nat} : ∀ (vs : List Value) (o : Nat) (w : World) (cur : Array Value), w.heap[b]? = some (.cells cur e (0, 0)) → ∃ cur' : Array Value, (w.setCells b o vs).heap[b]? = some (.cells cur' e (0, 0)) ∧ cur'.size = cur.size ∧ (∀ i, i < o ∨ o + vs.length ≤ i → cur'[i]? = cur[i]?) ∧ ∀ i, i < vs.length → o + i < cur.size → cur'[o + i]? = vs[i]?
  | [], o, w, cur, h => ⟨cur, h, rfl, fun _ _ => rfl, fun i hi => by simp at hi⟩
  | v :: r, o, w, cur, h => by
    obtain ⟨c', h1, h2, h3, h4⟩ := row_sets r (o + 1) (w.setCell ⟨b, o, none⟩ v) _ (heap_set h v)
    refine ⟨c', h1, by simpa using h2, fun i hi => ?_, fun i hi hs => ?_⟩
    · rw [h3 i (by rw [List.length_cons] at hi; omega), Array.getElem?_setIfInBounds, if_neg (by rw [List.length_cons] at hi; omega)]
    · cases i with
      | zero =>
        rw [Nat.add_zero, h3 o (by omega), Array.getElem?_setIfInBounds, if_pos rfl, if_pos (by omega)]
        rfl
      | succ i =>
        have := h4 i (by rw [List.length_cons] at hi; omega) (by simp; omega)
        rw [show o + (i + 1) = o + 1 + i by omega, this]
        rfl
theorem beats_len (f t s : Int) : ∀ l : List (Int × Int), (beats f t s l).length = l.length * 9
  | [] => rfl
  | x :: r => by
    have := beats_len f t s r
    unfold beats at this ⊢
    rw [List.flatMap_cons, List.length_append, this, List.length_cons]
    show 9 + _ = _
    omega
theorem beats_drop (f t s : Int) : ∀ (l : List (Int × Int)) (j : Nat), beats f t s (l.drop j) = (beats f t s l).drop (j * 9)
  | l, 0 => by simp
  | [], j + 1 => by simp [beats]
  | x :: l, j + 1 => by
    have := beats_drop f t s l j
    rw [List.drop_succ_cons, this]
    unfold beats
    rw [List.flatMap_cons, show (j + 1) * 9 = (beat9 f t s x.1 x.2).length + j * 9 by show _ = 9 + _; omega, ← List.drop_drop, List.drop_left]
theorem zeros9_one (n : Nat) : ∀ v ∈ (Builtin.zeroCells (Value.cells (.agg #[.int .i64 0, .int .i64 0, .int .i64 0, .int .i64 0, .int .i64 0, .bool false, .slice none 0 0, .int .i64 0, .slice none 0 0])) n).toList, v.oneCell' = true := by
  intro v hv
  simp only [Builtin.zeroCells, Value.cells] at hv
  rw [Array.mem_toList_iff, Array.mem_map] at hv
  obtain ⟨i, _, rfl⟩ := hv
  obtain ⟨j, hj⟩ : ∃ j, j = i % 9 := ⟨_, rfl⟩
  have hl : j < 9 := by omega
  show (#[Value.int .i64 0, .int .i64 0, .int .i64 0, .int .i64 0, .int .i64 0, .bool false, .slice none 0 0, .int .i64 0, .slice none 0 0][i % 9]!).oneCell' = true
  rw [← hj]
  rcases (by omega : j = 0 ∨ j = 1 ∨ j = 2 ∨ j = 3 ∨ j = 4 ∨ j = 5 ∨ j = 6 ∨ j = 7 ∨ j = 8) with h | h | h | h | h | h | h | h | h <;> rw [h] <;> rfl
theorem beats_one (f t s : Int) (l : List (Int × Int)) : ∀ u ∈ beats f t s l, u.oneCell' = true := fun u hu => by
  obtain ⟨p, _, h⟩ := List.mem_flatMap.1 hu
  exact one9 _ _ _ _ _ u h
theorem zero37 : ∀ w, (zeroValue 37).run Tryd.prog w = .ok (.agg #[.int .i64 0, .int .i64 0, .int .i64 0, .int .i64 0, .int .i64 0, .bool false, .slice none 0 0, .int .i64 0, .slice none 0 0]) w := Tryd.zeroValue37
/-- Only block b may have turned. -/
structure OnlyB (b : Nat) (w w' : World) : Prop where
  os : w'.os = w.os
  tape : w'.tape = w.tape
  output : w'.output = w.output
  size : w.heap.size = w'.heap.size
  block : ∀ k, k ≠ b → w'.heap[k]? = w.heap[k]?
theorem OnlyB.sets {b : Nat} {w w' : World} (h : OnlyB b w w') (o : Nat) (vs : List Value) : OnlyB b w (w'.setCells b o vs) := by
  have hb := below_setCells (B := 0) (b := b) (a := w') (Nat.zero_le _) vs o (Below.refl _ _)
  exact ⟨hb.os.trans h.os, hb.tape.trans h.tape, hb.output.trans h.output, by rw [setCells_size]; exact h.size, fun k hk => by rw [setCells_other _ _ _ _ _ hk]; exact h.block k hk⟩
theorem OnlyB.drew {b : Nat} {w : World} : OnlyB b w w.drew := ⟨rfl, rfl, rfl, rfl, fun _ _ => rfl⟩
set_option maxHeartbeats 4000000 in
theorem delete_front (w : World) (base b cap j n : Nat) (f t s : Int) (l : List (Int × Int)) (h : w.ownsRow base 37 9 (.slice (some ⟨b, 0, none⟩) n cap) l.length (beats f t s l)) (hn : n = l.length) (hj0 : 0 < j) (hj : j ≤ n) (hn1 : n ≤ 1000) :
    Calls Tryd.prog 40 #[.slice (some ⟨b, 0, none⟩) n cap, .int .i64 0, .int .i64 j] w fun e w' => e = .returned (.slice (some ⟨b, 0, none⟩) (n - j) cap) ∧ w'.ownsRow base 37 9 (.slice (some ⟨b, 0, none⟩) (n - j) cap) (l.drop j).length (beats f t s (l.drop j)) ∧ OnlyB b w w' := by
  obtain ⟨i37, hi, hz0, hz1, hz2⟩ := info_parts Tryd.info37
  obtain ⟨hlen, h2⟩ := h
  rcases h2 with ⟨h2, _⟩ | ⟨g, cap', cur, hv, hbase, hh, hnc, hcm, hsz, htk⟩
  · cases h2
  injection hv with hv hva hcap
  injection hv with hv
  injection hv with hv hvb hvc
  subst hv hcap
  clear hva hvb hvc
  rw [← hn] at hnc htk
  have hbl := beats_len f t s l
  -- what is laid over the front
  obtain ⟨news, hnews⟩ : ∃ news, news = beats f t s (l.drop j) := ⟨_, rfl⟩
  have hnl : news.length = (n - j) * 9 := by rw [hnews, beats_len, List.length_drop, ← hn]
  have hcur : ∀ i, i < n * 9 → cur[i]? = (beats f t s l)[i]? := fun i hi => by
    rw [← htk, List.getElem?_take, if_pos hi, Array.getElem?_toList]
  have hnc1 : ∀ q u, news[q]? = some u → w.drew.cell? ((⟨b, j * 9, none⟩ : Addr).add q) = some u := fun q u hq => by
    have hql : q < (n - j) * 9 := by have := (List.getElem?_eq_some_iff.1 hq).1; omega
    rw [Addr.add_lit]
    show w.cell? ⟨b, j * 9 + q, none⟩ = _
    rw [cell_of hh, hcur _ (by omega), ← hq, hnews, beats_drop, List.getElem?_drop]
  have hsp : ∀ q, q < news.length → (w.drew.cell? ⟨b, 0 + 0 * 9 + q, none⟩).isSome = true ∧ w.drew.frozen? ⟨b, 0 + 0 * 9 + q, none⟩ = false := fun q hq => by
    refine ⟨?_, free_of hh⟩
    show (w.cell? ⟨b, 0 + 0 * 9 + q, none⟩).isSome = true
    have : 0 + 0 * 9 + q < cur.size := by rw [hsz]; have : n * 9 ≤ cap * 9 := Nat.mul_le_mul_right 9 hnc; omega
    rw [cell_of hh, Array.getElem?_eq_getElem this]
    rfl
  obtain ⟨c1, r1, r2, r3, r4⟩ := row_sets news (0 + 0 * 9) w.drew cur hh
  obtain ⟨w1, hw1⟩ : ∃ w1, w1 = w.drew.setCells b (0 + 0 * 9) news := ⟨_, rfl⟩
  have O1 : Hid (OnlyB b w w1) := by show OnlyB _ _ _; rw [hw1]; exact OnlyB.drew.sets _ _
  rw [← hw1] at r1
  obtain ⟨vs, hvs⟩ : ∃ vs, vs = (Builtin.zeroCells (Value.cells (.agg #[.int .i64 0, .int .i64 0, .int .i64 0, .int .i64 0, .int .i64 0, .bool false, .slice none 0 0, .int .i64 0, .slice none 0 0])) j).toList := ⟨_, rfl⟩
  have hvl : vs.length = j * 9 := by rw [hvs]; simp [Builtin.zeroCells, Value.cells]; try omega
  have hcc : n * 9 ≤ cap * 9 := Nat.mul_le_mul_right 9 hnc
  have hcl : ∀ ty, (Builtin.clear_ #[32] ty #[.slice (some ⟨b, (n - j) * 9, none⟩) j (cap - (n - j))]).run Tryd.prog w1 = .ok (.tuple #[]) (w1.setCells b ((n - j) * 9) vs) := fun ty =>
    run_clear_k w1 32 37 ty _ Tryd.underlying32 zero37 b ((n - j) * 9) j (cap - (n - j)) hj0 vs hvs.symm (by rw [hvs]; exact zeros9_one _) (fun q hq => by
      rw [cell_of r1, Array.getElem?_eq_getElem (by rw [r2, hsz]; omega)]; rfl) (fun q _ => free_of r1)
  obtain ⟨c2, t1, t2, t3, t4⟩ := row_sets vs ((n - j) * 9) w1 c1 r1
  have FIN : Hid ((w1.setCells b ((n - j) * 9) vs).ownsRow base 37 9 (.slice (some ⟨b, 0, none⟩) (n - j) cap) (l.drop j).length (beats f t s (l.drop j))) := by
    have hdl : (l.drop j).length = n - j := by rw [List.length_drop, ← hn]
    refine ⟨beats_len _ _ _ _, .inr ⟨b, cap, c2, by rw [hdl], hbase, t1, by omega, hcm, by rw [t2, r2, hsz], ?_⟩⟩
    rw [hdl]
    apply List.ext_getElem?
    intro i
    rw [List.getElem?_take]
    split
    · next hi =>
      rw [Array.getElem?_toList, t3 i (.inl hi), ← hnews]
      have := r4 i (by rw [hnl]; exact hi) (by rw [hsz]; omega)
      rw [← this]
      congr 1
      omega
    · next hi =>
      rw [← hnews, List.getElem?_eq_none (by rw [hnl]; omega)]
  have OF : Hid (OnlyB b w (w1.setCells b ((n - j) * 9) vs)) := O1.out.sets _ _
  have HW1 := hid hw1
  have hone : ∀ u ∈ news, u.oneCell' = true := by rw [hnews]; exact beats_one f t s _
  have i1 : (j : Int) ≤ (n : Int) := by omega
  have i2 : (n : Int) ≤ (cap : Int) := by omega
  have i3 : ((0 : Int) == (j : Int)) = false := beq_eq_false_iff_ne.2 (by omega)
  have i4 : ((j : Int)).toNat = j := by omega
  have HN := hid hn
  clear hn hw1 hvs hvl r1 r2 r3 r4 t1 t2 t3 t4 hnews hcur hbl htk hh hlen
  go_enter Tryd.func40, Tryd.ntmps40
  go_upto_region 5 with (fail)
  have HW0 : Hid (w1 = w.drew.setCells b 0 news) := HW1.out
  by_cases hcj : cap = j
  · subst hcj
    have hne : n = cap := by omega
    subst hne
    have hnil : news = [] := List.eq_nil_of_length_eq_zero (by rw [hnl]; omega)
    have hnv : ∀ (ad : Addr) (q : Nat) (u : Value), news[q]? = some u → w.drew.cell? (ad.add q) = some u := fun ad q u hq => by rw [hnil] at hq; simp at hq
    obtain ⟨wZ, hwZ⟩ : ∃ wZ, wZ = w1.setCells b ((n - n) * 9) vs := ⟨_, rfl⟩
    rw [← hwZ] at FIN OF
    have hcl0 : ∀ ty, (Builtin.clear_ #[32] ty #[.slice (some ⟨b, 0, none⟩) n n]).run Tryd.prog w1 = .ok (.tuple #[]) wZ := fun ty => by
      have := hcl ty
      rw [← hwZ] at this
      simpa using this
    have hl0 : news.length = 0 * 9 := by rw [hnil]; rfl
    clear hcl hnc1 hnl hnil hwZ
    go_region_law (refine step_append_room rfl _ _ 32 rfl 37 i37 9 Tryd.underlying32 hi hz1 b 0 0 n rfl _ 0 _ news rfl hl0 (hnv _) hone (by omega) hsp ?_)
    first | rw [← HW1.out] | rw [← HW0.out]
    simp only [Act.put, List.setIfInBounds_toArray]
    clear hsp hone
    go_wp2
    go_ret
    exact ⟨by rw [Nat.sub_self]; rfl, FIN.out, OF.out⟩
  · go_region_law (refine step_append_room rfl _ _ 32 rfl 37 i37 9 Tryd.underlying32 hi hz1 b 0 0 cap rfl _ (n - j) _ news rfl hnl hnc1 hone (by omega) hsp ?_)
    first | rw [← HW1.out] | rw [← HW0.out]
    simp only [Act.put, List.setIfInBounds_toArray]
    clear hnc1 hsp hnl hone
    have k1 : ((n - j : Nat) : Int) ≤ (n : Int) := by omega
    have k2 : n - (n - j) = j := by omega
    go_wp2
    go_ret
    exact ⟨rfl, FIN.out, OF.out⟩
end Go.Proofs.YtfbbbigmgffjcaaDoor
namespace Go.Proofs.YtfbbbigmgffjcaaDoor
open Go.RowKit
set_option maxRecDepth 100000

theorem acked_ok (w : World) (g : Nat) (f t s seq time : Int) (v : Value) (l : List (Int × Int)) (h : Snd w g f t s seq time v l) (hl : l.length ≤ 1000) (h0 : 0 ≤ seq) (h1 : seq ≤ 1000) :
    Calls Tryd.prog 39 #[.pointer (some ⟨g, 0, none⟩)] w fun e w' => e = .returned (.int .i64 (seq - l.length)) ∧ w' = w.drew := by
  obtain ⟨a, c, rfl⟩ := row_shape h.row
  have c3 : w.cell? ⟨g, 3, none⟩ = some (.int .i64 seq) := (cell_of h.box).trans rfl
  have c5 : w.cell? ⟨g, 5, none⟩ = some (.slice a l.length c) := (cell_of h.box).trans rfl
  obtain ⟨n, hn⟩ : ∃ n, n = l.length := ⟨_, rfl⟩
  rw [← hn] at c5 hl ⊢
  clear h hn
  have r1 : (-9223372036854775808 : Int) ≤ seq - n := by omega
  have r2 : seq - n ≤ (9223372036854775807 : Int) := by omega
  go_enter Tryd.func39, Tryd.ntmps39
  go_wp2
  go_region
  go_wp2
  go_ret
  exact ⟨rfl, rfl⟩
theorem Snd.drew {w : World} {g : Nat} {f t s seq time : Int} {v : Value} {l : List (Int × Int)} (h : Snd w g f t s seq time v l) : Snd w.drew g f t s seq time v l := ⟨h.box, owns_own h.row fun _ _ => rfl⟩
set_option maxHeartbeats 2000000 in
theorem Acked_old (w : World) (g : Nat) (f t s seq time k : Int) (v : Value) (l : List (Int × Int)) (h : Snd w g f t s seq time v l) (hl : l.length ≤ 1000) (h0 : 0 ≤ seq) (h1 : seq ≤ 1000) (hk0 : 0 ≤ k) (hk : k ≤ seq - l.length) :
    Calls Tryd.prog 12 #[.pointer (some ⟨g, 0, none⟩), .int .i64 k] w fun e w' => e = .returned .nilIface ∧ Snd w' g f t s seq time v l ∧ OnlyS g v w w' := by
  have c3 : w.cell? ⟨g, 3, none⟩ = some (.int .i64 seq) := (cell_of h.box).trans rfl
  have K := hid (acked_ok w g f t s seq time v l h hl h0 h1)
  have H := hid h
  obtain ⟨n, hn⟩ : ∃ n, n = l.length := ⟨_, rfl⟩
  rw [← hn] at hl hk K
  clear h hn
  have r1 : ¬ seq < k := by omega
  have r2 : (-9223372036854775808 : Int) ≤ k - (seq - n) := by omega
  have r3 : k - (seq - n) ≤ (9223372036854775807 : Int) := by omega
  have r4 : ¬ 0 < k - (seq - n) := by omega
  go_enter Tryd.func12, Tryd.ntmps12
  go_wp2_with fail
  refine K.out.mono ?_
  rintro e w' ⟨rfl, rfl⟩
  go_wp2_with fail
  go_ret
  exact ⟨rfl, H.out.drew, ⟨rfl, rfl, rfl, Nat.le_refl _, fun _ _ _ _ => rfl⟩⟩
set_option maxHeartbeats 2000000 in
theorem Acked_new (w : World) (g j : Nat) (f t s seq time : Int) (v : Value) (l : List (Int × Int)) (h : Snd w g f t s seq time v l) (hl : l.length ≤ 1000) (h0 : 0 ≤ seq) (h1 : seq ≤ 1000) (hq : (l.length : Int) ≤ seq) (hj0 : 0 < j) (hj : j ≤ l.length) :
    Calls Tryd.prog 12 #[.pointer (some ⟨g, 0, none⟩), .int .i64 (seq - l.length + j)] w fun e w' => ∃ v', e = .returned .nilIface ∧ Snd w' g f t s seq time v' (l.drop j) ∧ OnlyS g v w w' ∧ v'.ownBlock = v.ownBlock := by
  have c3 : w.cell? ⟨g, 3, none⟩ = some (.int .i64 seq) := (cell_of h.box).trans rfl
  have K := hid (acked_ok w g f t s seq time v l h hl h0 h1)
  have H := hid h.drew
  have hrow := h.drew.row
  obtain ⟨b, cap, hv, hgb⟩ : ∃ b cap, v = .slice (some ⟨b, 0, none⟩) l.length cap ∧ g + 1 ≤ b := by
    rcases hrow.2 with ⟨_, hz⟩ | ⟨b, cap, cur, hv, hb, _⟩
    · omega
    · exact ⟨b, cap, hv, hb⟩
  subst hv
  have c5 : w.drew.cell? ⟨g, 5, none⟩ = some (.slice (some ⟨b, 0, none⟩) l.length cap) := (cell_of H.out.box).trans rfl
  have D := hid (delete_front w.drew (g + 1) b cap j l.length f t s l hrow rfl hj0 hj hl)
  obtain ⟨n, hn⟩ : ∃ n, n = l.length := ⟨_, rfl⟩
  have HN := hid hn
  rw [← hn] at hl hq hj K c5 D H ⊢
  clear h hn hrow
  have r0 : ¬ seq - n + j < 0 := by omega
  have r1 : ¬ seq < seq - n + j := by omega
  have r5 : seq - n + j - (seq - n) = (j : Int) := by omega
  have r2 : (j : Int) ≤ (9223372036854775807 : Int) := by omega
  have r4 : 0 < (j : Int) := by omega
  go_enter Tryd.func12, Tryd.ntmps12
  go_wp2_with fail
  refine K.out.mono ?_
  rintro e w' ⟨rfl, rfl⟩
  go_wp2_with fail
  refine D.out.mono ?_
  rintro e w2 ⟨rfl, hs2, ho2⟩
  have hb2 : w2.heap[g]? = some (.cells #[.int .i64 f, .int .i64 t, .int .i64 s, .int .i64 seq, .int .i64 time, .slice (some ⟨b, 0, none⟩) n cap] 86 (0, 0)) := by
    rw [ho2.block g (by omega)]; exact H.out.box
  have q5 : (w2.cell? ⟨g, 5, none⟩) = some (.slice (some ⟨b, 0, none⟩) n cap) := (cell_of hb2).trans rfl
  have z5 : w2.frozen? ⟨g, 5, none⟩ = false := free_of hb2
  have B2 := hid hb2
  have S2 := hid hs2
  have O2 := hid ho2
  clear hb2 hs2 ho2
  go_wp2_with fail
  go_ret
  refine ⟨.slice (some ⟨b, 0, none⟩) (n - j) cap, rfl, ⟨heap_set B2.out _, ?_⟩, ⟨O2.out.os, O2.out.tape, O2.out.output, ?_, ?_⟩, rfl⟩
  · refine owns_own S2.out fun b' hb' => Below.heap_setCell _ _ _ _ fun e => ?_
    have h3 : b = b' := Option.some.inj hb'
    subst h3
    have e' : b = g := e
    omega
  · rw [size_set]; exact Nat.le_of_eq O2.out.size
  · intro k hk hkg hkv
    rw [Below.heap_setCell _ _ _ _ hkg, O2.out.block k fun e => hkv (by rw [e]; rfl)]
    rfl
end Go.Proofs.YtfbbbigmgffjcaaDoor
