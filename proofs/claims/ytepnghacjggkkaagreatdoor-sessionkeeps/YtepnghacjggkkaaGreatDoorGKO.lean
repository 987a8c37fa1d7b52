/- A session writes an op, right or wrong. -/
import Derived.Test.YtepnghacjggkkaaGreatDoorGKH
import Derived.Test.YtepnghacjggkkaaGreatDoorGKL
import Derived.Test.YtepnghacjggkkaaGreatDoorGYC
import Derived.Test.YtepnghacjggkkaaGreatDoorGWPart
import Derived.Test.YtepnghacjggkkaaGreatDoorGSBase
import Derived.Test.YtepnghacjggkkaaGreatDoorGVMath
import Derived.Deep.RegionHeld
import Derived.Deep.RegionHeldLaw
namespace Go.Proofs.YtepnghacjggkkaaGreatDoor
open Go.RowKit Go.Sort Go.Maps
set_option maxRecDepth 100000
set_option linter.unusedSectionVars false
variable [Inhabited ComV] [DecidableEq D3] [Inhabited D3] [Inhabited Dd] [Inhabited Dn] [Inhabited OpV]

def DotsB (text : ByteArray) (ds : List Dn) (W : World) (e : Ending) (w' : World) : Prop := ∃ v out, e = .returned (.tuple #[v, .nilIface]) ∧ IsDots text ds out ∧ (∀ d ∈ out, wf3 d) ∧ out.length ≤ 60 ∧ DotsAt w' v out ∧ Below W.heap.size W w' ∧ ∀ g o n c, v = .slice (some ⟨g, o, none⟩) n c → W.heap.size ≤ g ∧ g < w'.heap.size
theorem DotsB.k {text : ByteArray} {ds : List Dn} {W w' : World} {e : Ending} (h : DotsB text ds W e w') : DotsK text ds W e w' := by
  obtain ⟨v, out, h1, h2, h3, h4, h5, h6, h7⟩ := h
  exact ⟨v, out, h1, h2, h3, by omega, h5, h6, fun g o n c q => (h7 g o n c q).1⟩
structure OpsO (B : Nat) (w : World) (xb : Nat) (ov : Value) (os : List OpV) : Prop where
  row : ∃ xs : List Dd, w.ownsRow B 97 7 ov xs.length (xs.flatMap Dd.enc7) ∧ xs.map Dd.op = os ∧ ∀ x ∈ xs, GoodD w x ∧ ∀ g o, x.dp = some ⟨g, o, none⟩ → g ≠ xb ∧ ov.ownBlock ≠ some g ∧ g < w.heap.size
theorem OpsO.nil (B : Nat) (w : World) (xb : Nat) : OpsO B w xb (.slice none 0 0) [] := ⟨⟨[], World.ownsRow_nil _ _ _ _, rfl, fun _ h => by simp at h⟩⟩
theorem OpsO.below {B : Nat} {w w' : World} {xb : Nat} {ov : Value} {os : List OpV} (h : OpsO B w xb ov os) (hb : Below w.heap.size w w') : OpsO B w' xb ov os := by
  obtain ⟨xs, h1, h2, h3⟩ := h.row
  exact ⟨⟨xs, owns_below h1 (fun b _ hc => hb.block b (lt_of_heap hc)), h2, fun x hx => ⟨(h3 x hx).1.mono hb (Nat.le_refl _), fun g o e => ⟨((h3 x hx).2 g o e).1, ((h3 x hx).2 g o e).2.1, Nat.lt_of_lt_of_le ((h3 x hx).2 g o e).2.2 hb.size⟩⟩⟩⟩
theorem OpsO.at {B : Nat} {w : World} {xb : Nat} {ov : Value} {os : List OpV} (h : OpsO B w xb ov os) : OpsAt w ov os := by
  obtain ⟨xs, h1, h2, h3⟩ := h.row
  refine ⟨xs.map Dd.enc7, (rowT_of_owns (rows := xs.map Dd.enc7) (by rw [← List.flatMap_def]; exact h1) (by simp) (fun r hr => by obtain ⟨x, _, rfl⟩ := List.mem_map.1 hr; rfl)).at, ?_⟩
  subst h2
  clear h1 h
  induction xs with
  | nil => trivial
  | cons x xs ih => exact ⟨⟨_, rfl, by have := (h3 x (by simp)).1; have e := GoodD.len this; show DotsAt w (.slice x.dp x.dl x.dc) x.ds; exact this⟩, ih fun y hy => h3 y (by simp [hy])⟩
theorem OpsO.shape {B : Nat} {w : World} {xb : Nat} {ov : Value} {os : List OpV} (h : OpsO B w xb ov os) : ∃ a c, ov = .slice a os.length c := by
  obtain ⟨xs, h1, h2, _⟩ := h.row
  obtain ⟨a, c, rfl⟩ := row_shape h1
  exact ⟨a, c, by rw [← h2, List.length_map]⟩
def Other (w w' : World) : Prop := ∀ (b : Nat) (cs : Array Value) (t : TypeId), w.heap[b]? = some (.cells cs t (0, 0)) → t ≠ 90 → t ≠ 97 → w'.heap[b]? = w.heap[b]?
theorem Other.of {w w' : World} (h : Below w.heap.size w w') : Other w w' := fun b _ _ hb _ _ => h.block b (lt_of_heap hb)
theorem Other.trans {w w' w'' : World} (h : Other w w') (k : Other w' w'') : Other w w'' := fun b cs t hb h1 h2 => by
  have e := h b cs t hb h1 h2
  exact (k b cs t (e.trans hb) h1 h2).trans e
structure MrRet (C : List ComV) (B : Nat) (w : World) (xb pb : Nat) (av ov0 : Value) (e : Ending) (w' : World) : Prop where
  ret : ∃ (v ov : Value) (os : List OpV), e = .returned v ∧ TraBox w' xb pb av ov ∧ OpsO B w' xb ov os ∧ OwnOk C os ∧ os.length ≤ 12 ∧ Below B w w' ∧ Other w w' ∧ ∀ b, b < w.heap.size → b ≠ xb → ov0.ownBlock ≠ some b → w'.heap[b]? = w.heap[b]?
theorem KpC.dotOk {C : List ComV} (h : KpC C) (hl : C.length ≤ 100) {x : Dn} (hx : x ∈ flatA C) : dotB 1 x.dot = true := by
  obtain ⟨h1, h2, h3, h4⟩ := h.dot x hx
  obtain ⟨c, hc, hx⟩ := flat_mem.1 hx
  obtain ⟨o, ho, rfl⟩ := List.mem_map.1 hx
  obtain ⟨j, hj⟩ := List.getElem?_of_mem ho
  have h5 := h.at_ c hc j o hj
  have h6 := (h.ok c hc).few
  have h7 := (List.getElem?_eq_some_iff.1 hj).1
  have h8 : (dnOf c o).dot.a = o.at_ := rfl
  unfold dotB
  simp only [Bool.and_eq_true, decide_eq_true_eq]
  rw [h8, h5, h1]
  omega
theorem opErr_dots {o : OpV} (h : opErr o 1 = 0) (hr : o.rem = true) {ds : List D3} (hd : ds.length ≤ 60) (hb : ds.all (dotB 1) = true) : opErr { o with dots := ds } 1 = 0 := by
  unfold opErr at h ⊢
  split at h
  · exact absurd h (by decide)
  · rename_i h1
    rw [if_neg h1]
    split at h
    · exact absurd h (by decide)
    · rename_i h2
      rw [if_neg h2]
      split at h
      · exact absurd h (by decide)
      · rename_i h3
        rw [if_neg h3]
        split at h
        · exact absurd h (by decide)
        · rename_i h4
          have h4' : foreignB { o with dots := ds } = false := by
            have : foreignB o = false := by simpa using h4
            unfold foreignB at this ⊢
            simp only [hr] at this ⊢
            split at this
            · simp at this
            · split at this
              · simp at this
              · rename_i q1 q2
                rw [if_neg q1, if_neg q2]
                simpa using this
          rw [if_neg (by rw [h4']; decide)]
          split at h
          · exact absurd h (by decide)
          · rename_i h5
            rw [if_neg (by simp only; omega), if_neg (by rw [hb]; decide)]
theorem OwnOk.add {C : List ComV} {os : List OpV} (h : OwnOk C os) {o : OpV} (he : opErr o 1 = 0) (hz : o.at_ = 0) (hd : o.dots = []) : OwnOk C (os ++ [o]) :=
  ⟨fun x hx => by rcases List.mem_append.1 hx with q | q; exact h.err x q; rw [List.mem_singleton.1 q]; exact he,
   fun x hx => by rcases List.mem_append.1 hx with q | q; exact h.zero x q; rw [List.mem_singleton.1 q]; exact hz,
   fun x hx d hdx => by
    rcases List.mem_append.1 hx with q | q
    · exact h.old x q d hdx
    · rw [List.mem_singleton.1 q, hd] at hdx
      simp at hdx⟩
theorem OwnOk.drop {C : List ComV} (hC : KpC C) (hl : C.length ≤ 100) {os : List OpV} (h : OwnOk C os) {o : OpV} (he : opErr o 1 = 0) (hz : o.at_ = 0) (hr : o.rem = true) {out : List D3} (hi : IsDots o.text (opsK C o.key) out) (h60 : out.length ≤ 60) : OwnOk C (os ++ [{ o with dots := out }]) := by
  have hsub : ∀ d ∈ out, ∃ x ∈ standA (opsK C o.key), x.o.text = o.text ∧ x.dot = d := fun d hd => by
    rcases hi with ⟨_, e⟩ | ⟨_, hp, _⟩
    · rw [e] at hd; simp at hd
    · have := hp.mem_iff.1 hd
      obtain ⟨x, hx, rfl⟩ := List.mem_map.1 this
      obtain ⟨hx, e⟩ := List.mem_filter.1 hx
      exact ⟨x, hx, of_decide_eq_true e, rfl⟩
  refine ⟨fun x hx => ?_, fun x hx => ?_, fun x hx d hdx => ?_⟩
  · rcases List.mem_append.1 hx with q | q
    · exact h.err x q
    · rw [List.mem_singleton.1 q]
      refine opErr_dots he hr h60 (List.all_eq_true.2 fun d hd => ?_)
      obtain ⟨y, hy, _, e⟩ := hsub d hd
      rw [← e]
      exact hC.dotOk hl (standK_mem hy)
  · rcases List.mem_append.1 hx with q | q
    · exact h.zero x q
    · rw [List.mem_singleton.1 q]; exact hz
  · rcases List.mem_append.1 hx with q | q
    · exact h.old x q d hdx
    · rw [List.mem_singleton.1 q] at hdx ⊢
      exact hsub d hdx
theorem OpsO.app {B : Nat} {w W W' : World} {xb : Nat} {ov ov' : Value} {os : List OpV} {x : Dd} {xs : List Dd} (h2 : xs.map Dd.op = os) (h3 : ∀ x ∈ xs, GoodD w x ∧ ∀ g o, x.dp = some ⟨g, o, none⟩ → g ≠ xb ∧ ov.ownBlock ≠ some g ∧ g < w.heap.size) (hb : Below w.heap.size w W) (hx : GoodD W x) (hxd : ∀ g o, x.dp = some ⟨g, o, none⟩ → g ≠ xb ∧ ov.ownBlock ≠ some g ∧ g < W.heap.size) (hsz : W.heap.size ≤ W'.heap.size)
    (hnew : ov'.ownBlock = ov.ownBlock ∨ ∃ q, ov'.ownBlock = some q ∧ W.heap.size ≤ q) (hr : W'.ownsRow B 97 7 ov' (xs.length + 1) (xs.flatMap Dd.enc7 ++ x.enc7)) (hs : ∀ b, b < W.heap.size → b ≠ xb → ov.ownBlock ≠ some b → W'.heap[b]? = W.heap[b]?) : OpsO B W' xb ov' (os ++ [x.op]) := by
  have keep : ∀ y : Dd, GoodD W y → (∀ g o, y.dp = some ⟨g, o, none⟩ → g ≠ xb ∧ ov.ownBlock ≠ some g ∧ g < W.heap.size) → GoodD W' y := fun y hy hd => by
    obtain ⟨ad, cap, e, q1, q2, q3⟩ := hy
    refine ⟨ad, cap, e, q1, q2, ?_⟩
    rcases q3 with q3 | ⟨b, off, rfl, q3⟩
    · exact .inl q3
    · refine .inr ⟨b, off, rfl, fun j r hj => ⟨(q3 j r hj).1, fun i u hu => ?_⟩⟩
      have hc := (q3 j r hj).2 i u hu
      have hdp : y.dp = some ⟨b, off, none⟩ := by injection e
      rw [World.cell?_of_block (a := ⟨b, off + j * 3 + i, none⟩) (hs b (lt_of_cell hc) (hd b off hdp).1 (hd b off hdp).2.1)]
      exact hc
  refine ⟨⟨xs ++ [x], ?_, by rw [List.map_append, h2]; rfl, fun y hy => ?_⟩⟩
  · rw [List.length_append, List.flatMap_append]
    simpa using hr
  · have good : GoodD W y ∧ ∀ g o, y.dp = some ⟨g, o, none⟩ → g ≠ xb ∧ ov.ownBlock ≠ some g ∧ g < W.heap.size := by
      rcases List.mem_append.1 hy with q | q
      · exact ⟨(h3 y q).1.mono hb (Nat.le_refl _), fun g o e => ⟨((h3 y q).2 g o e).1, ((h3 y q).2 g o e).2.1, Nat.lt_of_lt_of_le ((h3 y q).2 g o e).2.2 hb.size⟩⟩
      · rw [List.mem_singleton.1 q]
        exact ⟨hx, hxd⟩
    refine ⟨keep y good.1 good.2, fun g o e => ⟨(good.2 g o e).1, fun e2 => ?_, Nat.lt_of_lt_of_le (good.2 g o e).2.2 hsz⟩⟩
    rcases hnew with q | ⟨q, q1, q2⟩
    · exact (good.2 g o e).2.1 (q ▸ e2)
    · rw [q1] at e2
      have e3 : q = g := Option.some.inj e2
      have := (good.2 g o e).2.2
      omega
theorem more_fin {C : List ComV} {B : Nat} {w WX w9 wz : World} {xb pb : Nat} {av ov v9 : Value} {os : List OpV} {xs : List Dd} {on : Nat} {cs : List Value} {x : Dd} {o : OpV} {v : Value} (hxB : B ≤ xb) (bX : Below w.heap.size w WX) (tX : TraBox WX xb pb av ov) (hnx : ov.ownBlock ≠ some xb) (h1 : w.ownsRow B 97 7 ov on cs) (h2 : xs.map Dd.op = os) (h3 : ∀ x ∈ xs, GoodD w x ∧ ∀ g o, x.dp = some ⟨g, o, none⟩ → g ≠ xb ∧ ov.ownBlock ≠ some g ∧ g < w.heap.size) (hn : xs.length = on) (hcs : cs = xs.flatMap Dd.enc7)
    (A9 : ∀ b, b < WX.heap.size → ov.ownBlock ≠ some b → w9.heap[b]? = WX.heap[b]?) (B9 : Below B w w9) (Z9 : WX.heap.size ≤ w9.heap.size) (N9 : v9.ownBlock = ov.ownBlock ∨ ∃ q, v9.ownBlock = some q ∧ WX.heap.size ≤ q) (P9 : w9.heap[xb]? = some (.cells #[.pointer (some ⟨pb, 0, none⟩), av, ov] 90 (0, 0))) (R9 : w9.ownsRow B 97 7 v9 (on + 1) (cs ++ x.enc7)) (hwz : wz = w9.setCell ⟨xb, 2, none⟩ v9) (ho : x.op = o) (hx : GoodD WX x) (hd : ∀ g o, x.dp = some ⟨g, o, none⟩ → g ≠ xb ∧ ov.ownBlock ≠ some g ∧ g < WX.heap.size) (hok : OwnOk C (os ++ [o])) (hl : (os ++ [o]).length ≤ 12) : MrRet C B w xb pb av ov (.returned v) wz := by
  have hxX : xb < WX.heap.size := lt_of_heap tX
  have hs : ∀ b, b < WX.heap.size → b ≠ xb → ov.ownBlock ≠ some b → wz.heap[b]? = WX.heap[b]? := fun b q1 q2 q3 => by rw [hwz, Below.heap_setCell _ _ _ _ q2]; exact A9 b q1 q3
  have hn9 : v9.ownBlock ≠ some xb := fun e => by
    rcases N9 with q | ⟨q, q1, q2⟩
    · exact hnx (q ▸ e)
    · rw [q1] at e
      have : q = xb := Option.some.inj e
      omega
  subst ho
  refine ⟨⟨v, v9, os ++ [x.op], rfl, ?_, OpsO.app h2 h3 bX hx hd (by rw [hwz]; simpa using Z9) N9 ?_ hs, hok, hl, ?_, fun b c t hb t1 t2 => ?_, fun b q1 q2 q3 => (hs b (Nat.lt_of_lt_of_le q1 bX.size) q2 q3).trans (bX.block b q1)⟩⟩
  · rw [hwz]; exact (heap_set P9 _).trans rfl
  · rw [hn, ← hcs, hwz]
    exact own_keep R9 fun q hq => Below.heap_setCell _ _ _ _ fun e => hn9 (by rw [hq]; exact congrArg some e)
  · rw [hwz]; exact B9.setCell hxB _
  · have hb' := bX.block b (lt_of_heap hb)
    rw [hs b (Nat.lt_of_lt_of_le (lt_of_heap hb) bX.size) (fun e => ?_) (fun e => ?_)]
    · exact hb'
    · rw [hb] at hb'
      have tX' : WX.heap[xb]? = some (.cells #[.pointer (some ⟨pb, 0, none⟩), av, ov] 90 (0, 0)) := tX
      rw [← e, hb'] at tX'
      injection tX' with tX'
      injection tX' with _ tX'
      exact t1 tX'
    · obtain ⟨c1, q1⟩ := own_type h1 e
      rw [hb] at q1
      injection q1 with q1
      injection q1 with _ q1
      exact t2 q1
set_option maxHeartbeats 8000000 in
theorem more_any (A : Nat → Addr) (B : Nat) (w : World) (hE : E4 A w) (h12 : 12 ≤ w.heap.size) (fv : Value) (hF : w.cell? ⟨9, 0, none⟩ = some fv) (C : List ComV) (hC : KpC C) (hCl : C.length ≤ 100) (xb pb : Nat) (aa : Option Addr) (ac : Nat) (ov : Value) (os : List OpV) (y2 : ByteArray) (y3 : Int) (y4 : ByteArray) (y5 : Int) (y6 : Bool) (h : TraBox w xb pb (.slice aa 1 ac) ov) (hxB : B ≤ xb) (hO : OpsO B w xb ov os) (hok : OwnOk C os) (hl : os.length ≤ 12) (ht : y4.size ≤ 1000000)
    (K86 : nameB y2 = true → ∀ W, Below w.heap.size w W → Calls Tryz.prog 86 #[.pointer (some ⟨pb, 0, none⟩), .string y2, .string y4, .slice aa 1 ac] W (DotsB y4 (opsK C y2) W)) :
    Calls Tryz.prog 57 #[.pointer (some ⟨xb, 0, none⟩), .agg #[.int .i64 0, .string y2, .int .i64 y3, .string y4, .int .i64 y5, .bool y6, .slice none 0 0]] w (MrRet C B w xb pb (.slice aa 1 ac) ov) := by
  obtain ⟨w0, hw0⟩ : ∃ w0, w0 = w.alloc (.cells #[.int .i64 0, .string y2, .int .i64 y3, .string y4, .int .i64 y5, .bool y6, .slice none 0 0] 97) := ⟨_, rfl⟩
  obtain ⟨oa, oc, hov⟩ := hO.shape
  subst hov
  obtain ⟨on, hon⟩ : ∃ on, on = os.length := ⟨_, rfl⟩
  rw [← hon] at h hO hl ⊢
  have b0 : Below w.heap.size w w0 := by rw [hw0]; exact below_alloc _ _
  have tb : TraBox w0 xb pb (.slice aa 1 ac) (.slice oa on oc) := (b0.block _ (lt_of_heap h)).trans h
  have ob0 : w0.heap[w.heap.size]? = some (.cells #[.int .i64 0, .string y2, .int .i64 y3, .string y4, .int .i64 y5, .bool y6, .slice none 0 0] 97 (0, 0)) := by rw [hw0]; exact heap_new _ _
  have K85 := hid (fun W (hW : Below w0.heap.size w0 W) => check_op A W ((hE.below b0 h12).below hW (Nat.le_trans h12 b0.size)) (Nat.le_trans h12 (Nat.le_trans b0.size hW.size)) 0 y2 y3 y4 y5 y6 none 0 [] 1 ⟨none, 0, rfl, fun _ => rfl, Nat.le_refl _, .inl rfl⟩ (by decide) ht)
  have t0 : w0.cell? ⟨xb, 0, none⟩ = some (.pointer (some ⟨pb, 0, none⟩)) := (cell_of tb).trans rfl
  have t1 : w0.cell? ⟨xb, 1, none⟩ = some (.slice aa 1 ac) := (cell_of tb).trans rfl
  have t2 : w0.cell? ⟨xb, 2, none⟩ = some (.slice oa on oc) := (cell_of tb).trans rfl
  have o0 : w0.cell? ⟨w.heap.size, 0, none⟩ = some (.int .i64 0) := (cell_of ob0).trans rfl
  have o1 : w0.cell? ⟨w.heap.size, 1, none⟩ = some (.string y2) := (cell_of ob0).trans rfl
  have o2 : w0.cell? ⟨w.heap.size, 2, none⟩ = some (.int .i64 y3) := (cell_of ob0).trans rfl
  have o3 : w0.cell? ⟨w.heap.size, 3, none⟩ = some (.string y4) := (cell_of ob0).trans rfl
  have o4 : w0.cell? ⟨w.heap.size, 4, none⟩ = some (.int .i64 y5) := (cell_of ob0).trans rfl
  have o5 : w0.cell? ⟨w.heap.size, 5, none⟩ = some (.bool y6) := (cell_of ob0).trans rfl
  have o6 : w0.cell? ⟨w.heap.size, 6, none⟩ = some (.slice none 0 0) := (cell_of ob0).trans rfl
  have hF0 : w0.cell? ⟨9, 0, none⟩ = some fv := (b0.cell (p := ⟨9, 0, none⟩) (lt_of_cell hF)).trans hF
  have SAME : Hid (∀ (v : Value) (W : World), Below w.heap.size w W → MrRet C B w xb pb (.slice aa 1 ac) (.slice oa on oc) (.returned v) W) := (show ∀ v W, _ → _ from fun v W hW => ⟨⟨v, _, os, rfl, (hW.block _ (lt_of_heap h)).trans h, hO.below hW, hok, by omega, hW.mono (Nat.le_of_lt (Nat.lt_of_le_of_lt hxB (lt_of_heap h))), Other.of hW, fun b q1 _ _ => hW.block b q1⟩⟩)
  have TB := hid tb
  have OB := hid ob0
  have B0 := hid b0
  have HK := hid K86
  have HO := hid hO
  have HOK := hid hok
  have HC := hid hC
  have hxl : xb < w.heap.size := lt_of_heap h
  have HON := hid hon
  clear h hE h12 hF K86 hO hok hC tb ob0 b0 hon ht
  go_enter Tryz.func57, Tryz.ntmps57
  go_upto_region 1 with (fail)
  rw [← hw0]
  clear hw0
  by_cases hfull : on = 12
  · subst hfull
    go_wp2
    go_ret
    exact SAME.out _ _ B0.out
  have hfi : ((on : Int) == 12) = false := by rw [beq_eq_false_iff_ne]; omega
  go_upto_region 3 with (fail)
  obtain ⟨er, her⟩ : ∃ er, er = opErr ⟨0, y2, y3, y4, y5, y6, []⟩ 1 := ⟨_, rfl⟩
  rw [← her] at K85
  have HER := hid her
  clear her
  go_region_held (fun u => u.cell? ⟨xb, 1, none⟩ = some (.slice aa 1 ac) ∧ u.cell? ⟨w.heap.size, 0, none⟩ = some (.int .i64 0) ∧ u.cell? ⟨w.heap.size, 1, none⟩ = some (.string y2) ∧ u.cell? ⟨w.heap.size, 2, none⟩ = some (.int .i64 y3) ∧ u.cell? ⟨w.heap.size, 3, none⟩ = some (.string y4) ∧ u.cell? ⟨w.heap.size, 4, none⟩ = some (.int .i64 y5) ∧ u.cell? ⟨w.heap.size, 5, none⟩ = some (.bool y6) ∧ u.cell? ⟨w.heap.size, 6, none⟩ = some (.slice none 0 0)) (first | go_keep | exact ⟨t1, o0, o1, o2, o3, o4, o5, o6⟩ | exact ⟨t1', p0, p1, p2, p3, p4, p5, p6⟩) ((go_at_call 85; refine (K85.out _ ?hb).mono ?_; (case hb => exact (Below.refl w0.heap.size w0).drew); rintro e w5 ⟨rfl, hb5⟩; have hb5' : Below w0.heap.size w0 w5 := (Below.refl w0.heap.size w0).drew.trans hb5; have t1' := (hb5'.cell (p := ⟨xb, 1, none⟩) (lt_of_cell t1)).trans t1; have p0 := (hb5'.cell (p := ⟨w.heap.size, 0, none⟩) (lt_of_cell o0)).trans o0; have p1 := (hb5'.cell (p := ⟨w.heap.size, 1, none⟩) (lt_of_cell o1)).trans o1; have p2 := (hb5'.cell (p := ⟨w.heap.size, 2, none⟩) (lt_of_cell o2)).trans o2; have p3 := (hb5'.cell (p := ⟨w.heap.size, 3, none⟩) (lt_of_cell o3)).trans o3; have p4 := (hb5'.cell (p := ⟨w.heap.size, 4, none⟩) (lt_of_cell o4)).trans o4; have p5 := (hb5'.cell (p := ⟨w.heap.size, 5, none⟩) (lt_of_cell o5)).trans o5; have p6 := (hb5'.cell (p := ⟨w.heap.size, 6, none⟩) (lt_of_cell o6)).trans o6; have HB5 := hid hb5'; clear hb5 hb5'))
  have BW : Hid (Below w.heap.size w w5) := (show Below _ _ _ from B0.out.trans (HB5.out.mono B0.out.size))
  clear K85 o0 o1 o2 o3 o4 o5 o6 t1
  rcases Nat.eq_zero_or_pos er with he | he
  · subst he
    rw [show errV A 0 = .nilIface from rfl]
    have hname : nameB y2 = true := by
      have h1 : opErr ⟨0, y2, y3, y4, y5, y6, []⟩ 1 = 0 := HER.out.symm
      cases q : nameB y2 with
      | true => rfl
      | false =>
        unfold opErr at h1
        rw [if_neg (by simp only; omega), if_pos q] at h1
        exact absurd h1 (by decide)
    have TBX : Hid (TraBox w5 xb pb (.slice aa 1 ac) (.slice oa on oc)) := (show _ = _ from (HB5.out.block _ (lt_of_heap TB.out)).trans TB.out)
    have s0 : w5.cell? ⟨xb, 0, none⟩ = some (.pointer (some ⟨pb, 0, none⟩)) := (cell_of TBX.out).trans rfl
    have s2 : w5.cell? ⟨xb, 2, none⟩ = some (.slice oa on oc) := (cell_of TBX.out).trans rfl
    have s2a := fun o => cell_alloc s2 o
    cases y6 with
    | false =>
      have BWX := BW
      clear t0 t2 HK hF0
      go_upto_region 11 with (fail)
      obtain ⟨xs, hx1, hx2, hx3⟩ := HO.out.row
      have hxn : xs.length = on := by rw [HON.out, ← hx2, List.length_map]
      rw [hxn] at hx1
      obtain ⟨cs, hcs⟩ : ∃ cs, cs = xs.flatMap Dd.enc7 := ⟨_, rfl⟩
      rw [← hcs] at hx1
      have hnx : (Value.slice oa on oc).ownBlock ≠ some xb := fun e => by
        obtain ⟨c1, q1⟩ := own_type (owns_below hx1 (fun b _ hc => BWX.out.block b (lt_of_heap hc))) e
        rw [TBX.out] at q1
        injection q1 with q1
        injection q1 with _ q1
        exact absurd q1 (by decide)
      have hnb : (Value.slice oa on oc).ownBlock ≠ some w.heap.size := fun e => by have := (hx1.lt _ e).2; omega
      have hrowX : w5.ownsRow B 97 7 (.slice oa on oc) on cs := owns_below hx1 (fun b _ hc => BWX.out.block b (lt_of_heap hc))
      have HX1 := hid hx1
      have HX2 := hid hx2
      have HX3 := hid hx3
      have HXN := hid hxn
      have HCS := hid hcs
      have hBw : B ≤ w.heap.size := by omega
      have hsX := BWX.out.size
      obtain ⟨i0, hi, hz0, hz1, hz2⟩ := info_parts Tryz.info97
      clear hx1 hx2 hx3 hxn hcs
      go_region_law ((refine step_append_at rfl _ _ 45 rfl B 97 i0 _ 7 88 Tryz.underlying45 hi hz0 hz1 hz2 rfl (by decide) (.slice oa on oc) on cs rfl ?hown _ 1 1 [.int .i64 0, .string y2, .int .i64 y3, .string y4, .int .i64 y5, .bool false, .slice none 0 0] rfl rfl (cells3_new _ _ _) (by simp [Value.oneCell']) ?hm2 ?hm3 ?hb ?_; (case hown => exact hrowX.alloc _); (case hm2 => unfold maxLen; omega); (case hm3 => omega); (case hb => simp; omega); intro v9 w9 hrow9 hgr9 hat9; have A9 : Hid (∀ b, b < w5.heap.size → (Value.slice oa on oc).ownBlock ≠ some b → w9.heap[b]? = w5.heap[b]?) := (show ∀ b, _ → _ from fun b hb hn => (hgr9.block b (by simp; omega) (fun e => hn e.symm)).trans (Below.heap_alloc _ _ _ (by show b < w5.heap.size; exact hb))); have B9 : Hid (Below B w w9) := (show Below _ _ _ from by first | exact ((BWX.out.mono hBw).alloc (by omega) _).grown hgr9 (by simp; omega) (fun k hk => (HX1.out.lt k hk).1) | exact (((BWX.out.mono hBw).alloc (by omega) _).drew).grown hgr9 (by simp; omega) (fun k hk => (HX1.out.lt k hk).1) | exact ((BWX.out.mono hBw).drew.alloc (by simp; omega) _).grown hgr9 (by simp; omega) (fun k hk => (HX1.out.lt k hk).1)); have Z9 : Hid (w5.heap.size ≤ w9.heap.size) := (show _ ≤ _ from Nat.le_trans (by simp) hgr9.size); have N9 : Hid (v9.ownBlock = (Value.slice oa on oc).ownBlock ∨ ∃ q, v9.ownBlock = some q ∧ w5.heap.size ≤ q) := (show _ ∨ _ from hat9.imp id fun e => ⟨_, e, by simp⟩); obtain ⟨a6, c6, hv9⟩ := row_shape hrow9; subst hv9; have P9 := (A9.out xb (by omega) hnx).trans TBX.out; have z9 : w9.frozen? ⟨xb, 2, none⟩ = false := free_of P9; have n9 : w9.cell? ⟨xb, 2, none⟩ = some (.slice oa on oc) := (cell_of P9).trans rfl; have m0 := hgr9.cell (cell_alloc p0 _) (fun e => hnb e.symm); have m1 := hgr9.cell (cell_alloc p1 _) (fun e => hnb e.symm); have m2 := hgr9.cell (cell_alloc p2 _) (fun e => hnb e.symm); have m3 := hgr9.cell (cell_alloc p3 _) (fun e => hnb e.symm); have m4 := hgr9.cell (cell_alloc p4 _) (fun e => hnb e.symm); have m5 := hgr9.cell (cell_alloc p5 _) (fun e => hnb e.symm); have m6 := hgr9.cell (cell_alloc p6 _) (fun e => hnb e.symm); have R9 := hid hrow9; have HP9 := hid P9; clear hrow9 hgr9 hat9 P9))
      all_goals
        obtain ⟨wz, hwz⟩ : ∃ wz, wz = w9.setCell ⟨xb, 2, none⟩ (.slice a6 (on + 1) c6) := ⟨_, rfl⟩
        have HW := hid hwz
        rw [← hwz]
        clear hwz m0 m1 m2 m3 m4 m5 m6 n9 z9 p0 p1 p2 p3 p4 p5 p6 t1'
        go_wp2
        go_ret
        exact more_fin hxB BWX.out TBX.out hnx HX1.out HX2.out HX3.out HXN.out HCS.out A9.out B9.out Z9.out N9.out HP9.out R9.out HW.out (x := ⟨0, y2, y3, y4, y5, false, none, 0, 0, default, 0, []⟩) rfl ⟨none, 0, rfl, fun _ => rfl, Nat.le_refl _, .inl rfl⟩ (fun _ _ h => by cases h) (HOK.out.add HER.out.symm rfl rfl) (by rw [List.length_append]; have := HON.out; simp; omega)
    | true =>
      have K86 := hid (HK.out hname)
      have BD : Hid (Below w.heap.size w w5.drew) := (show Below _ _ _ from BW.out.drew)
      have OB5 : Hid (w5.heap[w.heap.size]? = some (.cells #[.int .i64 0, .string y2, .int .i64 y3, .string y4, .int .i64 y5, .bool true, .slice none 0 0] 97 (0, 0))) := (show _ = _ from (HB5.out.block _ (lt_of_heap OB.out)).trans OB.out)
      clear t0 t2 HK hF0
      go_upto_region 7 with (fail)
      go_region_held (fun u => u.cell? ⟨xb, 0, none⟩ = some (.pointer (some ⟨pb, 0, none⟩)) ∧ u.cell? ⟨xb, 1, none⟩ = some (.slice aa 1 ac) ∧ u.cell? ⟨w.heap.size, 1, none⟩ = some (.string y2) ∧ u.cell? ⟨w.heap.size, 3, none⟩ = some (.string y4)) (first | go_keep | exact ⟨s0, t1', p1, p3⟩ | exact ⟨r0, r1, r2, r3⟩) ((go_at_call 86; (with_reducible refine (K86.out w5.drew ?hb).mono ?_); (case hb => exact BD.out); rintro e w6 ⟨v6, out, rfl, hI, hwf, hol, hda, hb6, hfr⟩; obtain ⟨dp, dc, hdv⟩ := hda.len; subst hdv; have r0 := (hb6.cell (p := ⟨xb, 0, none⟩) (lt_of_cell (show w5.drew.cell? ⟨xb, 0, none⟩ = _ from s0))).trans s0; have r1 := (hb6.cell (p := ⟨xb, 1, none⟩) (lt_of_cell (show w5.drew.cell? ⟨xb, 1, none⟩ = _ from t1'))).trans t1'; have r2 := (hb6.cell (p := ⟨w.heap.size, 1, none⟩) (lt_of_cell (show w5.drew.cell? ⟨w.heap.size, 1, none⟩ = _ from p1))).trans p1; have r3 := (hb6.cell (p := ⟨w.heap.size, 3, none⟩) (lt_of_cell (show w5.drew.cell? ⟨w.heap.size, 3, none⟩ = _ from p3))).trans p3; have HB6 := hid hb6; have HI := hid hI; have HDA := hid hda; have HFR := hid hfr; clear hb6 hI hwf hda hfr))
      have bw6 : Below w.heap.size w w6 := BD.out.trans (HB6.out.mono BD.out.size)
      have ob6 : w6.heap[w.heap.size]? = some (.cells #[.int .i64 0, .string y2, .int .i64 y3, .string y4, .int .i64 y5, .bool true, .slice none 0 0] 97 (0, 0)) := (HB6.out.block _ (lt_of_heap (show w5.drew.heap[w.heap.size]? = _ from OB5.out))).trans OB5.out
      have d6 : w6.cell? ⟨w.heap.size, 6, none⟩ = some (.slice none 0 0) := (cell_of ob6).trans rfl
      have f6 : w6.frozen? ⟨w.heap.size, 6, none⟩ = false := free_of ob6
      obtain ⟨w7, hw7⟩ : ∃ w7, w7 = w6.setCell ⟨w.heap.size, 6, none⟩ (.slice dp out.length dc) := ⟨_, rfl⟩
      have ob7 : w7.heap[w.heap.size]? = some (.cells #[.int .i64 0, .string y2, .int .i64 y3, .string y4, .int .i64 y5, .bool true, .slice dp out.length dc] 97 (0, 0)) := by rw [hw7]; exact (heap_set ob6 _).trans rfl
      have BWX : Hid (Below w.heap.size w w7) := (show Below _ _ _ from by rw [hw7]; exact bw6.setCell (Nat.le_refl _) _)
      have TBX7 : Hid (TraBox w7 xb pb (.slice aa 1 ac) (.slice oa on oc)) := (show _ = _ from by rw [hw7]; exact (Below.heap_setCell _ _ _ _ (by show xb ≠ w.heap.size; omega)).trans ((HB6.out.block _ (lt_of_heap (show w5.drew.heap[xb]? = _ from TBX.out))).trans TBX.out))
      have sz7 : w7.heap.size = w6.heap.size := by rw [hw7]; simp
      have h5l : w.heap.size < w5.heap.size := lt_of_heap OB5.out
      have GD : Hid (GoodD w7 ⟨0, y2, y3, y4, y5, true, dp, out.length, dc, default, 0, out⟩) := (show DotsAt _ _ _ from by
        obtain ⟨ad, cap, e, q1, q2, q3⟩ := HDA.out
        refine ⟨ad, cap, e, q1, q2, ?_⟩
        rcases q3 with q3 | ⟨b, off, rfl, q3⟩
        · exact .inl q3
        · refine .inr ⟨b, off, rfl, fun j r hj => ⟨(q3 j r hj).1, fun i u hu => ?_⟩⟩
          have hc := (q3 j r hj).2 i u hu
          have hdp : dp = some ⟨b, off, none⟩ := by injection e
          have hge := (HFR.out b off _ _ (by rw [hdp])).1
          have hge' : w5.heap.size ≤ b := hge
          rw [hw7, World.cell?_of_block (a := ⟨b, off + j * 3 + i, none⟩) (Below.heap_setCell _ _ _ _ (by show b ≠ w.heap.size; omega))]
          exact hc)
      have DX : Hid (∀ g o, dp = some ⟨g, o, none⟩ → xb < w.heap.size → (∀ q, (Value.slice oa on oc).ownBlock = some q → q < w.heap.size) → g ≠ xb ∧ (Value.slice oa on oc).ownBlock ≠ some g ∧ g < w7.heap.size) := (show ∀ g o, _ → _ → _ → _ from fun g o e h1 h2 => by
        have hge := HFR.out g o _ _ (by rw [e])
        have hge' : w5.heap.size ≤ g := hge.1
        refine ⟨by omega, fun e2 => ?_, by rw [sz7]; exact hge.2⟩
        have := h2 g e2
        omega)
      have i60 : (out.length : Int) ≤ 60 := by omega
      have hmn : min (out.length : Int) 60 = (out.length : Int) := by omega
      have hcp : (out.length : Int) ≤ (dc : Int) := by
        obtain ⟨ad, cap, e, _, q2, _⟩ := HDA.out
        injection e with _ _ e3
        rw [List.length_map] at q2
        omega
      have hp0 : (0 : Int) ≤ (out.length : Int) := by omega
      clear s0 s2 s2a r0 r1 r2 r3 TBX BW BD HB6 OB5 K86 p0 p1 p2 p3 p4 p5 p6 t1' sz7
      go_upto_region 11 with (fail)
      have TBX := TBX7
      rw [← hw7]
      clear hw7 d6 f6 hmn hcp hp0 i60 ob6 bw6 TBX7
      have s2 : w7.cell? ⟨xb, 2, none⟩ = some (.slice oa on oc) := (cell_of TBX.out).trans rfl
      have s2a := fun o => cell_alloc s2 o
      have p0 : w7.cell? ⟨w.heap.size, 0, none⟩ = some (.int .i64 0) := (cell_of ob7).trans rfl
      have p1 : w7.cell? ⟨w.heap.size, 1, none⟩ = some (.string y2) := (cell_of ob7).trans rfl
      have p2 : w7.cell? ⟨w.heap.size, 2, none⟩ = some (.int .i64 y3) := (cell_of ob7).trans rfl
      have p3 : w7.cell? ⟨w.heap.size, 3, none⟩ = some (.string y4) := (cell_of ob7).trans rfl
      have p4 : w7.cell? ⟨w.heap.size, 4, none⟩ = some (.int .i64 y5) := (cell_of ob7).trans rfl
      have p5 : w7.cell? ⟨w.heap.size, 5, none⟩ = some (.bool true) := (cell_of ob7).trans rfl
      have p6 : w7.cell? ⟨w.heap.size, 6, none⟩ = some (.slice dp out.length dc) := (cell_of ob7).trans rfl
      clear ob7
      obtain ⟨xs, hx1, hx2, hx3⟩ := HO.out.row
      have hxn : xs.length = on := by rw [HON.out, ← hx2, List.length_map]
      rw [hxn] at hx1
      obtain ⟨cs, hcs⟩ : ∃ cs, cs = xs.flatMap Dd.enc7 := ⟨_, rfl⟩
      rw [← hcs] at hx1
      have hnx : (Value.slice oa on oc).ownBlock ≠ some xb := fun e => by
        obtain ⟨c1, q1⟩ := own_type (owns_below hx1 (fun b _ hc => BWX.out.block b (lt_of_heap hc))) e
        rw [TBX.out] at q1
        injection q1 with q1
        injection q1 with _ q1
        exact absurd q1 (by decide)
      have hnb : (Value.slice oa on oc).ownBlock ≠ some w.heap.size := fun e => by have := (hx1.lt _ e).2; omega
      have hrowX : w7.ownsRow B 97 7 (.slice oa on oc) on cs := owns_below hx1 (fun b _ hc => BWX.out.block b (lt_of_heap hc))
      have HX1 := hid hx1
      have HX2 := hid hx2
      have HX3 := hid hx3
      have HXN := hid hxn
      have HCS := hid hcs
      have hBw : B ≤ w.heap.size := by omega
      have hsX := BWX.out.size
      obtain ⟨i0, hi, hz0, hz1, hz2⟩ := info_parts Tryz.info97
      have hnxx : xb < w.heap.size := hxl
      have hnoo : ∀ q, (Value.slice oa on oc).ownBlock = some q → q < w.heap.size := fun q hq => (HX1.out.lt q hq).2
      clear hx1 hx2 hx3 hxn hcs
      go_region_law ((refine step_append_at rfl _ _ 45 rfl B 97 i0 _ 7 88 Tryz.underlying45 hi hz0 hz1 hz2 rfl (by decide) (.slice oa on oc) on cs rfl ?hown _ 1 1 [.int .i64 0, .string y2, .int .i64 y3, .string y4, .int .i64 y5, .bool true, .slice dp out.length dc] rfl rfl (cells3_new _ _ _) (by simp [Value.oneCell']) ?hm2 ?hm3 ?hb ?_; (case hown => exact hrowX.alloc _); (case hm2 => unfold maxLen; omega); (case hm3 => omega); (case hb => simp; omega); intro v9 w9 hrow9 hgr9 hat9; have A9 : Hid (∀ b, b < w7.heap.size → (Value.slice oa on oc).ownBlock ≠ some b → w9.heap[b]? = w7.heap[b]?) := (show ∀ b, _ → _ from fun b hb hn => (hgr9.block b (by simp; omega) (fun e => hn e.symm)).trans (Below.heap_alloc _ _ _ (by show b < w7.heap.size; exact hb))); have B9 : Hid (Below B w w9) := (show Below _ _ _ from by first | exact ((BWX.out.mono hBw).alloc (by omega) _).grown hgr9 (by simp; omega) (fun k hk => (HX1.out.lt k hk).1) | exact (((BWX.out.mono hBw).alloc (by omega) _).drew).grown hgr9 (by simp; omega) (fun k hk => (HX1.out.lt k hk).1) | exact ((BWX.out.mono hBw).drew.alloc (by simp; omega) _).grown hgr9 (by simp; omega) (fun k hk => (HX1.out.lt k hk).1)); have Z9 : Hid (w7.heap.size ≤ w9.heap.size) := (show _ ≤ _ from Nat.le_trans (by simp) hgr9.size); have N9 : Hid (v9.ownBlock = (Value.slice oa on oc).ownBlock ∨ ∃ q, v9.ownBlock = some q ∧ w7.heap.size ≤ q) := (show _ ∨ _ from hat9.imp id fun e => ⟨_, e, by simp⟩); obtain ⟨a6, c6, hv9⟩ := row_shape hrow9; subst hv9; have P9 := (A9.out xb (by omega) hnx).trans TBX.out; have z9 : w9.frozen? ⟨xb, 2, none⟩ = false := free_of P9; have n9 : w9.cell? ⟨xb, 2, none⟩ = some (.slice oa on oc) := (cell_of P9).trans rfl; have m0 := hgr9.cell (cell_alloc p0 _) (fun e => hnb e.symm); have m1 := hgr9.cell (cell_alloc p1 _) (fun e => hnb e.symm); have m2 := hgr9.cell (cell_alloc p2 _) (fun e => hnb e.symm); have m3 := hgr9.cell (cell_alloc p3 _) (fun e => hnb e.symm); have m4 := hgr9.cell (cell_alloc p4 _) (fun e => hnb e.symm); have m5 := hgr9.cell (cell_alloc p5 _) (fun e => hnb e.symm); have m6 := hgr9.cell (cell_alloc p6 _) (fun e => hnb e.symm); have R9 := hid hrow9; have HP9 := hid P9; clear hrow9 hgr9 hat9 P9))
      all_goals
        obtain ⟨wz, hwz⟩ : ∃ wz, wz = w9.setCell ⟨xb, 2, none⟩ (.slice a6 (on + 1) c6) := ⟨_, rfl⟩
        have HW := hid hwz
        rw [← hwz]
        clear hwz m0 m1 m2 m3 m4 m5 m6 n9 z9 p0 p1 p2 p3 p4 p5 p6
        go_wp2
        go_ret
        exact more_fin hxB BWX.out TBX.out hnx HX1.out HX2.out HX3.out HXN.out HCS.out A9.out B9.out Z9.out N9.out HP9.out R9.out HW.out (x := ⟨0, y2, y3, y4, y5, true, dp, out.length, dc, default, 0, out⟩) rfl GD.out (fun g o e => DX.out g o e hnxx hnoo) (HOK.out.drop HC.out hCl HER.out.symm rfl rfl HI.out hol) (by rw [List.length_append]; have := HON.out; simp; omega)
  · obtain ⟨ek, rfl⟩ : ∃ ek, er = ek + 1 := ⟨er - 1, by omega⟩
    rw [show errV A (ek + 1) = .iface 276 (.pointer (some (A ek))) from rfl]
    go_wp2
    go_ret
    exact SAME.out _ _ BW.out
end Go.Proofs.YtepnghacjggkkaaGreatDoor
