/- Parts as they lie in rows, each op in a block of its own: where settle's lists stand; vector.Ahead, and compareParts, by their contracts; vector.Most by its contract; The document's answer's Has; What is wrong with a vector, with a read, by its number; The document's answer's In, SameInts, Most, NewVersions; Base; filled; The document's answer's Within, AtError. -/
import Derived.Test.YtdnebclemngdcaaGreatDoorJVCmpD
import Derived.Test.YtdnebclemngdcaaGreatDoorJWVec
import Derived.Test.YtdnebclemngdcaaGreatDoorJVDelF
import Derived.Laws.AppendOwnNone
import Derived.Test.YtdnebclemngdcaaGreatDoorJVSetsI
import Derived.Test.YtdnebclemngdcaaGreatDoorJWPart2
import Derived.WalkLawsBesides
import Derived.Deep.RegionWith
import Derived.Test.YtdnebclemngdcaaGreatDoorJWPutB
import Derived.Test.YtdnebclemngdcaaGreatDoorJWNew
import Derived.WalkSpells
import Derived.Test.YtdnebclemngdcaaGreatDoorJVOfRQ
import Derived.Test.YtdnebclemngdcaaGreatDoorJWSeenW
namespace Go.Proofs.YtdnebclemngdcaaGreatDoor
open Go.RowKit Go.Maps
set_option maxRecDepth 100000
set_option linter.unusedSectionVars false
variable [Inhabited ComV] [DecidableEq D3] [Inhabited D3] [Inhabited Dd] [Inhabited Dn] [Inhabited OpV]

structure Rp where
  wa : Option Addr
  wc : Nat
  wn : List Int
  pl : Int
  g : Nat
def Rp.cells (r : Rp) : List Value := [.slice r.wa r.wn.length r.wc, .int .i64 r.pl, .slice (some ⟨r.g, 0, none⟩) 1 1]
theorem Rp.cells_length (r : Rp) : r.cells.length = 3 := rfl
theorem Rp.one (r : Rp) : ∀ v ∈ r.cells, v.oneCell' = true := fun v hv => by
  simp only [Rp.cells, List.mem_cons, List.not_mem_nil, or_false] at hv; rcases hv with rfl | rfl | rfl <;> rfl
def opC (o : OpV) (dv : Value) : List Value := [.int .i64 o.at_, .string o.key, .int .i64 o.kind, .string o.text, .int .i64 o.n, .bool o.rem, dv]
def absR (E : Nat → OpV) (r : Rp) : ComV := ⟨r.wn, r.pl, [E r.g]⟩
def RowR (w : World) (base : Nat) (v : Value) (rs : List Rp) : Prop := w.ownsRow base 34 3 v rs.length (rs.flatMap Rp.cells)
def OpsM (w : World) (rs : List Rp) (E : Nat → OpV) (D : Nat → Value) : Prop := ∀ r ∈ rs, w.heap[r.g]? = some (.cells (opC (E r.g) (D r.g)).toArray 76 (0, 0))
theorem lt_of_heapQ {w : World} {b : Nat} {o : Obj} (h : w.heap[b]? = some o) : b < w.heap.size := (Array.getElem?_eq_some_iff.1 h).1
theorem OpsM.below {w w' : World} {rs : List Rp} {E : Nat → OpV} {D : Nat → Value} (h : OpsM w rs E D) (hb : Below w.heap.size w w') : OpsM w' rs E D := fun r hr => by
  rw [hb.block _ (lt_of_heapQ (h r hr))]; exact h r hr
theorem OpsM.sub {w : World} {rs rs' : List Rp} {E : Nat → OpV} {D : Nat → Value} (h : OpsM w rs E D) (hs : ∀ r ∈ rs', r ∈ rs) : OpsM w rs' E D := fun r hr => h r (hs r hr)
theorem flatR_length (rs : List Rp) : (rs.flatMap Rp.cells).length = rs.length * 3 := by
  induction rs with
  | nil => rfl
  | cons x r ih => rw [List.flatMap_cons, List.length_append, ih, List.length_cons]; show 3 + _ = _; omega
theorem flatR_get : ∀ (rs : List Rp) (k i : Nat) (r : Rp), rs[k]? = some r → i < 3 → (rs.flatMap Rp.cells)[k * 3 + i]? = r.cells[i]?
  | [], _, _, _, h, _ => by simp at h
  | x :: rs, 0, i, r, h, hi => by
    obtain rfl : x = r := by simpa using h
    rw [List.flatMap_cons, List.getElem?_append_left (by rw [Rp.cells_length]; omega)]; simp
  | x :: rs, k + 1, i, r, h, hi => by
    rw [List.flatMap_cons, List.getElem?_append_right (by rw [Rp.cells_length]; omega), Rp.cells_length, show (k + 1) * 3 + i - 3 = k * 3 + i by omega]; exact flatR_get rs k i r (by simpa using h) hi
theorem RowR.shape {w : World} {base : Nat} {v : Value} {rs : List Rp} (h : RowR w base v rs) : ∃ a c, v = .slice a rs.length c := by
  rcases h.2 with ⟨rfl, h0⟩ | ⟨g, cap, cur, rfl, _⟩
  · exact ⟨none, 0, by rw [h0]⟩
  · exact ⟨_, _, rfl⟩
theorem RowR.at {w : World} {base : Nat} {v : Value} {rs : List Rp} (h : RowR w base v rs) {k : Nat} {r : Rp} (hr : rs[k]? = some r) :
    ∃ b cap, v = .slice (some ⟨b, 0, none⟩) rs.length cap ∧ w.cell? ⟨b, k * 3, none⟩ = some (.slice r.wa r.wn.length r.wc) ∧ w.cell? ⟨b, k * 3 + 1, none⟩ = some (.int .i64 r.pl) ∧ w.cell? ⟨b, k * 3 + 2, none⟩ = some (.slice (some ⟨r.g, 0, none⟩) 1 1) := by
  have hk : k < rs.length := (List.getElem?_eq_some_iff.1 hr).1; rcases h.2 with ⟨_, h0⟩ | ⟨b, cap, cur, hv, _, hh, hc, _, hs, ht⟩
  · omega
  · have cell : ∀ i, i < 3 → w.cell? ⟨b, k * 3 + i, none⟩ = r.cells[i]? := fun i hi => by
      rw [← flatR_get rs k i r hr hi, ← ht, List.getElem?_take, if_pos (by omega), Array.getElem?_toList]; simp only [World.cell?, hh]; rfl
    exact ⟨b, cap, hv, cell 0 (by omega), cell 1 (by omega), cell 2 (by omega)⟩
theorem RowR.nil (w : World) (base : Nat) : RowR w base (.slice none 0 0) [] := World.ownsRow_nil _ _ _ _
theorem owns_belowQ {w w' : World} {base e size n : Nat} {v : Value} {xs : List Value} (h : w.ownsRow base e size v n xs) (hb : Below w.heap.size w w') : w'.ownsRow base e size v n xs := by
  refine ⟨h.1, ?_⟩; rcases h.2 with h0 | ⟨g, cap, cur, h1, h2, h3, h4⟩
  · exact .inl h0
  · exact .inr ⟨g, cap, cur, h1, h2, by rw [hb.block _ (lt_of_heapQ h3)]; exact h3, h4⟩
theorem RowR.below {w w' : World} {base : Nat} {v : Value} {rs : List Rp} (h : RowR w base v rs) (hb : Below w.heap.size w w') : RowR w' base v rs := owns_belowQ h hb
theorem RowR.snoc {w' : World} {base : Nat} {v : Value} {rs : List Rp} {r : Rp} (h : w'.ownsRow base 34 3 v (rs.length + 1) (rs.flatMap Rp.cells ++ r.cells)) : RowR w' base v (rs ++ [r]) := by
  unfold RowR; rw [List.length_append, List.flatMap_append]
  simpa using h
structure RowInv (w : World) (v : Value) (rs : List Rp) (wr : World) : Prop where
  row : RowR wr w.heap.size v rs
  below : Below w.heap.size w wr
theorem RowInv.moved {w wr w' : World} {v : Value} {rs : List Rp} (h : RowInv w v rs wr) (hb : Below wr.heap.size wr w') : RowInv w v rs w' := ⟨h.row.below hb, h.below.trans (hb.mono h.below.size)⟩
theorem RowInv.step {w wr w' : World} {v v' : Value} {rs : List Rp} {r : Rp} (h : RowInv w v rs wr) (hg : wr.grownBy w' v.ownBlock) (hr : w'.ownsRow w.heap.size 34 3 v' (rs.length + 1) (rs.flatMap Rp.cells ++ r.cells)) : RowInv w v' (rs ++ [r]) w' where
  row := RowR.snoc hr
  below := h.below.trans ⟨hg.os, hg.tape, hg.output, hg.size, fun i hi => hg.block i (Nat.lt_of_lt_of_le hi h.below.size) fun e => by have := (h.row.lt i e.symm).1; omega⟩

def keepL {α : Type} (p : Nat → α → Bool) : Nat → List α → List α
  | _, [] => []
  | i, a :: r => if p i a then a :: keepL p (i + 1) r else keepL p (i + 1) r
theorem keepL_cons {α : Type} (p : Nat → α → Bool) (i : Nat) (a : α) (r : List α) : keepL p i (a :: r) = if p i a then a :: keepL p (i + 1) r else keepL p (i + 1) r := rfl
theorem keepL_append {α : Type} (p : Nat → α → Bool) : ∀ (i : Nat) (a b : List α), keepL p i (a ++ b) = keepL p i a ++ keepL p (i + a.length) b
  | i, [], b => rfl
  | i, x :: a, b => by
    rw [List.cons_append, keepL_cons, keepL_cons, keepL_append p (i + 1) a b, List.length_cons, show i + 1 + a.length = i + (a.length + 1) by omega]
    split <;> rfl
theorem keepL_snoc {α : Type} (p : Nat → α → Bool) {l : List α} {k : Nat} {a : α} (h : l[k]? = some a) : keepL p 0 (l.take (k + 1)) = keepL p 0 (l.take k) ++ (if p k a then [a] else []) := by
  obtain ⟨hk, e⟩ := List.getElem?_eq_some_iff.1 h; rw [List.take_succ_eq_append_getElem hk, keepL_append, List.length_take, e, show 0 + min k l.length = k by omega]; rfl
theorem keepL_map {α β : Type} (p : Nat → β → Bool) (f : α → β) : ∀ (i : Nat) (l : List α), keepL p i (l.map f) = (keepL (fun i a => p i (f a)) i l).map f
  | _, [] => rfl
  | i, a :: r => by
    rw [List.map_cons, keepL_cons, keepL_cons, keepL_map p f (i + 1) r]
    split <;> rfl
theorem keepL_sub {α : Type} (p : Nat → α → Bool) : ∀ (i : Nat) (l : List α), (keepL p i l).Sublist l
  | _, [] => List.Sublist.refl _
  | i, a :: r => by
    rw [keepL_cons]
    split
    · exact (keepL_sub p (i + 1) r).cons_cons a
    · exact (keepL_sub p (i + 1) r).cons a
theorem Tryz.info34q : (Tryz.prog.info? 34).map (fun i => (i.zero, i.size, i.bytes)) = some (some (.agg #[.slice none 0 0, .int .i64 0, .slice none 0 0]), 3, 56) := by kernel_rfl
theorem cells_newQ (w : World) (t : TypeId) (cs : List Value) (b : Nat) (hb : b = w.heap.size) : ∀ j u, cs[j]? = some u → (w.alloc (.cells cs.toArray t)).cell? ((⟨b, 0, none⟩ : Addr).add j) = some u := fun j u hj => by
  subst hb; rw [Addr.add_lit, Nat.zero_add, World.cell?_alloc_at _ _ _ _ rfl]
  simpa using hj
theorem some_of_lt {α : Type} {l : List α} {k : Nat} (h : k < l.length) : ∃ a, l[k]? = some a := ⟨l[k], List.getElem?_eq_getElem h⟩
end Go.Proofs.YtdnebclemngdcaaGreatDoor
namespace Go.Proofs.YtdnebclemngdcaaGreatDoor
open Go.RowKit Go.Maps Go.Sort
set_option maxRecDepth 100000
set_option linter.unusedSectionVars false
variable [Inhabited ComV] [DecidableEq D3] [Inhabited D3] [Inhabited Dd] [Inhabited Dn] [Inhabited OpV]

theorem IntsAt.some {w : World} {v : Value} {zs : List Int} (h : IntsAt w v zs) (h0 : 1 ≤ zs.length) : ∃ b o c, v = .slice (some ⟨b, o, none⟩) zs.length c ∧ ∀ t, t < zs.length → w.cell? ⟨b, o + t, none⟩ = some (.int .i64 (zs.getD t 0)) := by
  obtain ⟨ad, c, rfl, _, h⟩ := h; rcases h with rfl | ⟨b, o, rfl, h⟩
  · simp at h0
  · exact ⟨b, o, c, rfl, h⟩
theorem hasPlace_yes (w : World) (ad : Option Addr) (n c : Nat) (p : Int) (h1 : 0 ≤ p) (h2 : p < n) :
    Calls Tryz.prog 137 #[.slice ad n c, .int .i64 p] w fun e w' => e = .returned (.bool true) ∧ w' = w := by
  have hb : decide (0 ≤ p) = true := decide_eq_true h1; have hb2 : decide (p < (n : Int)) = true := decide_eq_true h2; go_enter Tryz.func137, Tryz.ntmps137; go_wp2; go_ret; exact ⟨rfl, rfl⟩
def aheadB (zs ys : List Int) (p q : Int) : Bool := decide (sum zs < sum ys) || (decide (sum zs = sum ys) && decide (p < q)) || (decide (sum zs = sum ys) && decide (p = q) && decide (zs.getD p.toNat 0 < ys.getD p.toNat 0))

set_option maxHeartbeats 4000000 in
theorem Ahead_ok (A : Nat → Addr) (w : World) (hE : E4 A w) (v u : Value) (p q : Int) (zs ys : List Int) (h1 : IntsAt w v zs) (h2 : IntsAt w u ys) (h0 : two zs ys = 0) (hp : 0 ≤ p ∧ p < zs.length ∧ 0 ≤ q ∧ q < zs.length) :
    Calls Tryz.prog 101 #[v, .int .i64 p, u, .int .i64 q] w fun e w' => e = .returned (.tuple #[.bool (aheadB zs ys p q), .nilIface]) ∧ ∃ k, w' = w.drewN k := by
  obtain ⟨hz, hy, hn⟩ := two_zero.1 h0; have hz' := chk_zero.1 hz; have K1 := hid (checkPair_ok A w hE v u zs ys h1 h2 h0); have K4 := hid (weigh_any w v zs h1 hz); have K5 := hid (weigh_any w u ys h2 hy); obtain ⟨b1, o1, c1, rfl, g1⟩ := h1.some hz'.1; obtain ⟨b2, o2, c2, rfl, g2⟩ := h2.some (by omega); have K2 := hid (hasPlace_yes w (some ⟨b1, o1, none⟩) zs.length c1 p hp.1 hp.2.1); have K3 := hid (hasPlace_yes w (some ⟨b2, o2, none⟩) ys.length c2 q hp.2.2.1 (by omega)); obtain ⟨pn, rfl⟩ := Int.eq_ofNat_of_zero_le hp.1; have e1 := g1 pn (by omega); have e2 := g2 pn (by omega); have hi1 : (pn : Int) < (zs.length : Int) := by omega
  have hi2 : (pn : Int) < (ys.length : Int) := by omega
  have hpn : pn < zs.length := by omega
  have hpn2 : pn < ys.length := by omega
  obtain ⟨r, hr⟩ : ∃ r, r = aheadB zs ys pn q := ⟨_, rfl⟩; rw [← hr]; unfold aheadB at hr; rw [Int.toNat_natCast] at hr; obtain ⟨x, hx⟩ : ∃ x, x = zs.getD pn 0 := ⟨_, rfl⟩; obtain ⟨y, hyy⟩ : ∃ y, y = ys.getD pn 0 := ⟨_, rfl⟩; obtain ⟨n1, hn1⟩ : ∃ k, k = zs.length := ⟨_, rfl⟩; obtain ⟨n2, hn2⟩ : ∃ k, k = ys.length := ⟨_, rfl⟩; rw [← hx] at e1 hr; rw [← hyy] at e2 hr; rw [← hn1] at hi1 hpn K1 K2 K4 ⊢; rw [← hn2] at hi2 hpn2 K1 K3 K5 ⊢
  generalize sum zs = s1 at hr K4
  generalize sum ys = s2 at hr K5
  clear h0 hz hy hn hz' h1 h2 g1 g2 hx hyy hn1 hn2 hp
  by_cases hs : s1 = s2
  · have hsb : (s1 != s2) = false := by rw [hs]; simp
    by_cases hq : (pn : Int) = q
    · have hqb : ((pn : Int) != q) = false := by rw [hq]; simp
      have HR : Hid (r = decide (x < y)) := by show r = _; rw [hr, hs, hq]; simp
      clear hr hs hq; go_enter Tryz.func101, Tryz.ntmps101; go_wp2_with fail; refine K1.out.mono ?_; rintro e w' ⟨rfl, rfl⟩; go_wp2_with fail; refine K2.out.mono ?_; rintro e w' ⟨rfl, rfl⟩; go_wp2_with fail; refine K3.out.mono ?_; rintro e w' ⟨rfl, rfl⟩; go_wp2_with fail; refine K4.out.mono ?_; rintro e w' ⟨rfl, rfl⟩; go_wp2_with fail; refine K5.out.mono ?_; rintro e w' ⟨rfl, rfl⟩; go_wp2
      go_quiet (fail)
      go_wp2
      go_ret2
      exact ⟨by rw [HR.out]; rfl, _, rfl⟩
    · have hqb : ((pn : Int) != q) = true := by rw [bne_iff_ne]; exact hq
      have HR : Hid (r = decide ((pn : Int) < q)) := by show r = _; rw [hr, hs]; simp [hq]
      clear hr hs hq; go_enter Tryz.func101, Tryz.ntmps101; go_wp2_with fail; refine K1.out.mono ?_; rintro e w' ⟨rfl, rfl⟩; go_wp2_with fail; refine K2.out.mono ?_; rintro e w' ⟨rfl, rfl⟩; go_wp2_with fail; refine K3.out.mono ?_; rintro e w' ⟨rfl, rfl⟩; go_wp2_with fail; refine K4.out.mono ?_; rintro e w' ⟨rfl, rfl⟩; go_wp2_with fail; refine K5.out.mono ?_; rintro e w' ⟨rfl, rfl⟩; go_wp2
      go_ret2
      exact ⟨by rw [HR.out]; rfl, 0, rfl⟩
  · have hsb : (s1 != s2) = true := by rw [bne_iff_ne]; exact hs
    have HR : Hid (r = decide (s1 < s2)) := by show r = _; rw [hr]; simp [hs]
    clear hr hs; go_enter Tryz.func101, Tryz.ntmps101; go_wp2_with fail; refine K1.out.mono ?_; rintro e w' ⟨rfl, rfl⟩; go_wp2_with fail; refine K2.out.mono ?_; rintro e w' ⟨rfl, rfl⟩; go_wp2_with fail; refine K3.out.mono ?_; rintro e w' ⟨rfl, rfl⟩; go_wp2_with fail; refine K4.out.mono ?_; rintro e w' ⟨rfl, rfl⟩; go_wp2_with fail; refine K5.out.mono ?_; rintro e w' ⟨rfl, rfl⟩; go_wp2
    go_ret2
    exact ⟨by rw [HR.out]; rfl, 0, rfl⟩

def cmpR (E : Nat → OpV) (x y : Rp) : Int := if aheadB x.wn y.wn x.pl y.pl = true then -1 else if aheadB y.wn x.wn y.pl x.pl = true then 1 else cmpI (E x.g).at_ (E y.g).at_
theorem grown2 (w : World) (a b : Obj) (q : Nat) : ((w.alloc a).alloc b).drewN q = grow (w.drewN q) (#[a] ++ #[b]) := by
  simp only [alloc_eq_grow, grow_grow]; rfl
structure CmpFit (w : World) (E : Nat → OpV) (nb : Nat) (r : Rp) : Prop where
  ints : IntsAt w (.slice r.wa r.wn.length r.wc) r.wn
  chk : chk r.wn = 0
  len : r.wn.length = nb
  lo : 0 ≤ r.pl
  hi : r.pl < r.wn.length
  at_ : w.cell? ⟨r.g, 0, none⟩ = some (.int .i64 (E r.g).at_)
set_option maxHeartbeats 4000000 in
theorem compareParts_ok (A : Nat → Addr) (w : World) (hE : E4 A w) (h12 : 12 ≤ w.heap.size) (E : Nat → OpV) (nb : Nat) (x y : Rp) (hx : CmpFit w E nb x) (hy : CmpFit w E nb y) :
    Calls Tryz.prog 70 #[.agg x.cells.toArray, .agg y.cells.toArray] w fun e w' => e = .returned (.int .i64 (cmpR E x y)) ∧ ∃ q os', w' = grow (w.drewN q) os' := by
  obtain ⟨xwa, xwc, xwn, xpl, xg⟩ := x; obtain ⟨ywa, ywc, ywn, ypl, yg⟩ := y; obtain ⟨w1, hw1⟩ : ∃ w1, w1 = w.alloc (.cells #[.slice xwa xwn.length xwc, .int .i64 xpl, .slice (some ⟨xg, 0, none⟩) 1 1] 34) := ⟨_, rfl⟩; obtain ⟨w2, hw2⟩ : ∃ w2, w2 = w1.alloc (.cells #[.slice ywa ywn.length ywc, .int .i64 ypl, .slice (some ⟨yg, 0, none⟩) 1 1] 34) := ⟨_, rfl⟩; have s1 : w1.heap.size = w.heap.size + 1 := by rw [hw1]; simp
  have hB : Below w.heap.size w w2 := by rw [hw2, hw1]; exact below2 w _ _
  have x1 : w2.heap[w.heap.size]? = some (.cells #[.slice xwa xwn.length xwc, .int .i64 xpl, .slice (some ⟨xg, 0, none⟩) 1 1] 34 (0, 0)) := by rw [hw2, (MapKept.heap_alloc _ _).2 _ (by omega), hw1]; exact (MapKept.heap_alloc _ _).1
  have x2 : w2.heap[w.heap.size + 1]? = some (.cells #[.slice ywa ywn.length ywc, .int .i64 ypl, .slice (some ⟨yg, 0, none⟩) 1 1] 34 (0, 0)) := by rw [hw2, ← s1]; exact (MapKept.heap_alloc _ _).1
  have hI1 := hx.ints.mono hB (Nat.le_refl _); have hI2 := hy.ints.mono hB (Nat.le_refl _); have hl : xwn.length = ywn.length := hx.len.trans hy.len.symm; have hlx := hx.lo; have hhx := hx.hi; have hly := hy.lo; have hhy := hy.hi; simp only at hI1 hI2 hlx hhx hly hhy; have hE2 := hE.below hB h12; have K1 : ∀ q, Calls Tryz.prog 101 #[.slice xwa xwn.length xwc, .int .i64 xpl, .slice ywa ywn.length ywc, .int .i64 ypl] (w2.drewN q) fun e w' => e = .returned (.tuple #[.bool (aheadB xwn ywn xpl ypl), .nilIface]) ∧ ∃ k, w' = (w2.drewN q).drewN k := fun q => Ahead_ok A (w2.drewN q) (hE2.below (below_draws (Below.refl _ _) q) (by have := hB.size; omega)) _ _ xpl ypl xwn ywn (hI1.mono (below_draws (Below.refl _ _) q) (Nat.le_refl _)) (hI2.mono (below_draws (Below.refl _ _) q) (Nat.le_refl _)) (two_zero.2 ⟨hx.chk, hy.chk, hl⟩) ⟨hlx, hhx, hly, by omega⟩
  have K2 : ∀ q, Calls Tryz.prog 101 #[.slice ywa ywn.length ywc, .int .i64 ypl, .slice xwa xwn.length xwc, .int .i64 xpl] (w2.drewN q) fun e w' => e = .returned (.tuple #[.bool (aheadB ywn xwn ypl xpl), .nilIface]) ∧ ∃ k, w' = (w2.drewN q).drewN k := fun q => Ahead_ok A (w2.drewN q) (hE2.below (below_draws (Below.refl _ _) q) (by have := hB.size; omega)) _ _ ypl xpl ywn xwn (hI2.mono (below_draws (Below.refl _ _) q) (Nat.le_refl _)) (hI1.mono (below_draws (Below.refl _ _) q) (Nat.le_refl _)) (two_zero.2 ⟨hy.chk, hx.chk, hl.symm⟩) ⟨hly, hhy, hlx, by omega⟩
  have K102 := compare_any; have c0 : w2.cell? ⟨w.heap.size, 0, none⟩ = some (.slice xwa xwn.length xwc) := by simp only [World.cell?, x1]; rfl
  have c1 : w2.cell? ⟨w.heap.size, 1, none⟩ = some (.int .i64 xpl) := by simp only [World.cell?, x1]; rfl
  have c2 : w2.cell? ⟨w.heap.size, 2, none⟩ = some (.slice (some ⟨xg, 0, none⟩) 1 1) := by simp only [World.cell?, x1]; rfl
  have d0 : w2.cell? ⟨w.heap.size + 1, 0, none⟩ = some (.slice ywa ywn.length ywc) := by simp only [World.cell?, x2]; rfl
  have d1 : w2.cell? ⟨w.heap.size + 1, 1, none⟩ = some (.int .i64 ypl) := by simp only [World.cell?, x2]; rfl
  have d2 : w2.cell? ⟨w.heap.size + 1, 2, none⟩ = some (.slice (some ⟨yg, 0, none⟩) 1 1) := by simp only [World.cell?, x2]; rfl
  have f1 : w2.cell? ⟨xg, 0, none⟩ = some (.int .i64 (E xg).at_) := by rw [hB.cell (lt_of_cell hx.at_)]; exact hx.at_
  have f2 : w2.cell? ⟨yg, 0, none⟩ = some (.int .i64 (E yg).at_) := by rw [hB.cell (lt_of_cell hy.at_)]; exact hy.at_
  show Calls Tryz.prog 70 #[.agg #[.slice xwa xwn.length xwc, .int .i64 xpl, .slice (some ⟨xg, 0, none⟩) 1 1], .agg #[.slice ywa ywn.length ywc, .int .i64 ypl, .slice (some ⟨yg, 0, none⟩) 1 1]] w _; obtain ⟨r, hr⟩ : ∃ r, r = cmpR E ⟨xwa, xwc, xwn, xpl, xg⟩ ⟨ywa, ywc, ywn, ypl, yg⟩ := ⟨_, rfl⟩; rw [← hr]; unfold cmpR at hr; simp only at hr; obtain ⟨B1, hB1⟩ : ∃ B1, B1 = aheadB xwn ywn xpl ypl := ⟨_, rfl⟩; obtain ⟨B2, hB2⟩ : ∃ B2, B2 = aheadB ywn xwn ypl xpl := ⟨_, rfl⟩; rw [← hB1] at K1 hr; rw [← hB2] at K2 hr; have HR := hid hr; have fin : ∀ q, ∃ q' os', w2.drewN q = grow (w.drewN q') os' := fun q => ⟨q, _, by rw [hw2, hw1]; exact grown2 _ _ _ _⟩
  have FIN := hid fin; have HK1 := hid K1; have HK2 := hid K2; obtain ⟨n1, hn1⟩ : ∃ n1, n1 = xwn.length := ⟨_, rfl⟩; obtain ⟨n2, hn2⟩ : ∃ n2, n2 = ywn.length := ⟨_, rfl⟩; rw [← hn1] at hw1 c0 HK1 HK2 ⊢; rw [← hn2] at hw2 d0 HK1 HK2 ⊢; obtain ⟨za, hza⟩ : ∃ za, za = (E xg).at_ := ⟨_, rfl⟩; obtain ⟨zb, hzb⟩ : ∃ zb, zb = (E yg).at_ := ⟨_, rfl⟩; rw [← hza] at f1 HR; rw [← hzb] at f2 HR; obtain ⟨bx, hbx⟩ : ∃ bx, bx = w.heap.size := ⟨_, rfl⟩; obtain ⟨bY, hby⟩ : ∃ bY, bY = w.heap.size + 1 := ⟨_, rfl⟩; rw [← hbx] at c0 c1 c2; rw [← hby] at d0 d1 d2; clear hx hy hI1 hI2 hl hlx hhx hly hhy hE2 hE K1 K2 hr hB1 hB2 fin hn1 hn2 hza hzb x1 x2 s1 hB; go_enter Tryz.func70, Tryz.ntmps70; go_upto_region 1 with (fail); rw [← hw1, ← hw2, ← hby, ← hbx]
  clear hw1 hw2 hbx hby; go_wp2_with fail; refine (HK1.out 0).mono ?_; rintro e wa ⟨rfl, ka, hwa⟩
  cases B1 with
  | true =>
    have F := FIN.out (0 + ka); rw [← World.drewN_drewN, ← hwa] at F; have HF := hid F; clear F hwa; go_wp2; go_ret; exact ⟨ret_int (by rw [HR.out, if_pos trivial]), HF.out⟩
  | false =>
    have hwa' : wa = w2.drewN (0 + ka) := by rw [hwa, World.drewN_drewN]
    have HK2' := hid (HK2.out (0 + ka))
    have FIN2 : Hid (∀ q, ∃ q' os', (wa.drewN q) = grow (w.drewN q') os') := fun q => by
      rw [hwa', World.drewN_drewN]; exact FIN.out _
    rw [← hwa'] at HK2'; have e0 : wa.cell? ⟨bx, 0, none⟩ = some (.slice xwa n1 xwc) := by rw [hwa']; exact c0
    have e1 : wa.cell? ⟨bx, 1, none⟩ = some (.int .i64 xpl) := by rw [hwa']; exact c1
    have e2 : wa.cell? ⟨bx, 2, none⟩ = some (.slice (some ⟨xg, 0, none⟩) 1 1) := by rw [hwa']; exact c2
    have g0 : wa.cell? ⟨bY, 0, none⟩ = some (.slice ywa n2 ywc) := by rw [hwa']; exact d0
    have g1 : wa.cell? ⟨bY, 1, none⟩ = some (.int .i64 ypl) := by rw [hwa']; exact d1
    have g2 : wa.cell? ⟨bY, 2, none⟩ = some (.slice (some ⟨yg, 0, none⟩) 1 1) := by rw [hwa']; exact d2
    have l1 : wa.cell? ⟨xg, 0, none⟩ = some (.int .i64 za) := by rw [hwa']; exact f1
    have l2 : wa.cell? ⟨yg, 0, none⟩ = some (.int .i64 zb) := by rw [hwa']; exact f2
    clear hwa hwa' c0 c1 c2 d0 d1 d2 f1 f2 HK1 HK2 FIN; go_wp2_with fail; refine HK2'.out.mono ?_; rintro e wb ⟨rfl, kb, hwb⟩; have F := FIN2.out kb; rw [← hwb] at F; have HF := hid F
    cases B2 with
    | true =>
      clear F hwb; go_wp2; go_ret; exact ⟨ret_int (by rw [HR.out, if_neg (by decide), if_pos trivial]), HF.out⟩
    | false =>
      have m2 : wb.cell? ⟨bx, 2, none⟩ = some (.slice (some ⟨xg, 0, none⟩) 1 1) := by rw [hwb]; exact e2
      have p2 : wb.cell? ⟨bY, 2, none⟩ = some (.slice (some ⟨yg, 0, none⟩) 1 1) := by rw [hwb]; exact g2
      have t1 : wb.cell? ⟨xg, 0, none⟩ = some (.int .i64 za) := by rw [hwb]; exact l1
      have t2 : wb.cell? ⟨yg, 0, none⟩ = some (.int .i64 zb) := by rw [hwb]; exact l2
      have F3 : Hid (∃ q os', wb.drew = grow (w.drewN q) os') := by
        have := FIN2.out (kb + 1); rw [← World.drewN_drewN, ← hwb] at this; exact this
      clear F hwb e0 e1 e2 g0 g1 g2 l1 l2; go_wp2_with fail
      go_region_held (fun w' => w'.cell? ⟨bx, 2, none⟩ = some (.slice (some ⟨xg, 0, none⟩) 1 1) ∧ w'.cell? ⟨bY, 2, none⟩ = some (.slice (some ⟨yg, 0, none⟩) 1 1) ∧ w'.cell? ⟨xg, 0, none⟩ = some (.int .i64 za) ∧ w'.cell? ⟨yg, 0, none⟩ = some (.int .i64 zb)) (go_keep) (first | (go_at_call 102; refine (K102 _ _ _).mono ?_; rintro e w' ⟨rfl, rfl⟩))
      go_wp2; go_ret
      exact ⟨ret_int (by rw [HR.out, if_neg (by decide), if_neg (by decide)]), F3.out⟩
end Go.Proofs.YtdnebclemngdcaaGreatDoor
namespace Go.Proofs.YtdnebclemngdcaaGreatDoor
open Go.RowKit
set_option maxRecDepth 100000
set_option linter.unusedSectionVars false
variable [Inhabited ComV] [DecidableEq D3] [Inhabited D3] [Inhabited Dd] [Inhabited Dn] [Inhabited OpV]

def mxI (x y : Int) : Int := if x < y then y else x
theorem max_any (x y : Int) (w : World) : Calls Tryz.prog 68 #[.int .i64 x, .int .i64 y] w fun e w' => e = .returned (.int .i64 (mxI x y)) ∧ w' = w := by
  go_enter Tryz.func68, Tryz.ntmps68; go_wp2; go_ret; exact ⟨ret_int (by unfold mxI; split <;> omega), rfl⟩

def mid (F : Int → Int → Int) (zs ys : List Int) (n k : Nat) : List Int := (List.range n).map fun i => if i < k then F (zs.getD i 0) (ys.getD i 0) else 0
def comb (F : Int → Int → Int) (zs ys : List Int) : List Int := mid F zs ys zs.length zs.length
theorem mid_length (F : Int → Int → Int) (zs ys : List Int) (n k : Nat) : (mid F zs ys n k).length = n := by simp [mid]
theorem mid_zero (F : Int → Int → Int) (zs ys : List Int) (n : Nat) : mid F zs ys n 0 = List.replicate n 0 := by
  simp [mid, List.map_const']
theorem mid_succ (F : Int → Int → Int) (zs ys : List Int) (n k : Nat) : (mid F zs ys n k).set k (F (zs.getD k 0) (ys.getD k 0)) = mid F zs ys n (k + 1) := by
  refine List.ext_getElem (by simp [mid]) fun i a b => ?_
  simp only [mid, List.getElem_set, List.getElem_map, List.getElem_range]
  by_cases e : k = i
  · subst e; simp
  · rw [if_neg e]
    by_cases e2 : i < k
    · rw [if_pos e2, if_pos (by omega)]
    · rw [if_neg e2, if_neg (by omega)]

theorem set_map (l : List Int) (k : Nat) (x : Int) : (l.map (Value.int .i64)).set k (.int .i64 x) = (l.set k x).map (Value.int .i64) := by
  rw [List.map_set]

set_option maxHeartbeats 4000000 in
theorem most_n (A : Nat → Addr) (w : World) (hE : E4 A w) (b1 o1 c1 b2 o2 c2 n : Nat) (zs ys : List Int) (hz : zs.length = n) (hy : ys.length = n) (h0 : two zs ys = 0) (hl : n ≤ 6)
    (h1 : ∀ t, t < n → w.cell? ⟨b1, o1 + t, none⟩ = some (.int .i64 (zs.getD t 0)))
    (h2 : ∀ t, t < n → w.cell? ⟨b2, o2 + t, none⟩ = some (.int .i64 (ys.getD t 0))) :
    Calls Tryz.prog 67 #[.slice (some ⟨b1, o1, none⟩) n c1, .slice (some ⟨b2, o2, none⟩) n c2, .func (.func 68) #[] #[]] w fun e w' => ∃ v, e = .returned (.tuple #[v, .nilIface]) ∧ IntsT w' v (comb mxI zs ys) ∧ Below w.heap.size w w' := by
  have K1 := hid (checkPair_ok A w hE (.slice (some ⟨b1, o1, none⟩) n c1) (.slice (some ⟨b2, o2, none⟩) n c2) zs ys ⟨_, c1, by rw [hz], (fun h => by cases h), .inr ⟨b1, o1, rfl, by rw [hz]; exact h1⟩⟩ ⟨_, c2, by rw [hy], (fun h => by cases h), .inr ⟨b2, o2, rfl, by rw [hy]; exact h2⟩⟩ h0); have HZ : Hid (zs.length = n) := hz; have HY : Hid (ys.length = n) := hy; have H1 := hid h1; have H2 := hid h2; obtain ⟨i0, hi, hz0, hz1, hz2⟩ := info_parts Tryz.info3o; clear hz hy h1 h2 h0; go_enter Tryz.func67, Tryz.ntmps67; go_wp2_with fail; refine K1.out.mono ?_; rintro e w' ⟨rfl, rfl⟩
  go_wp2_with (first | (refine wpList_make_full _ rfl _ _ 23 rfl w'.heap.size 3 i0 (.int .i64 0) 1 Tryz.underlying23 hi hz0 hz1 .i64 .i64 _ _ n rfl rfl rfl rfl ?b2 ?b3 ?b4 ?_))
  case b2 => rw [hz2]; omega
  case b3 => unfold maxLen; omega
  case b4 => exact Nat.le_refl _
  intro w1 hown hgrow
  have HO : Hid (w1.ownsRow w'.heap.size 3 1 (.slice (some ⟨w'.heap.size, 0, none⟩) n n) n ((mid mxI zs ys n 0).map (Value.int .i64))) := by
    have e : (madeCells #[Value.int IntKind.i64 0] n).toList = (mid mxI zs ys n 0).map (Value.int .i64) := by
      rw [mid_zero, List.map_replicate]; exact toList_madeCells_one _ _
    rw [e] at hown; exact hown
  have HB : Hid (Below w'.heap.size w' w1) := (Below.refl _ _).grown hgrow (Nat.le_refl _) (fun k hk => by cases hk); clear hown hgrow
  have hE1 : w'.heap.size < w1.heap.size := by
    obtain ⟨_, h⟩ := HO.out; rcases h with ⟨h, _⟩ | ⟨g, _, _, h, _, hg, _⟩
    · cases h
    · simp only [Value.slice.injEq, Option.some.injEq, Addr.mk.injEq] at h; obtain ⟨⟨rfl, _⟩, _⟩ := h; exact (Array.getElem?_eq_some_iff.1 hg).1
  go_wp2
  go_loopw [22] (fun i wr => ∃ k : Nat, k ≤ n ∧ i = .int .i64 k ∧ wr.ownsRow w'.heap.size 3 1 (.slice (some ⟨w'.heap.size, 0, none⟩) n n) n ((mid mxI zs ys n k).map (Value.int .i64)) ∧ Below w'.heap.size w' wr) (fun i _ => n - (intOf i).toNat)
  case atStart => exact ⟨0, Nat.zero_le _, rfl, HO.out, HB.out⟩
  case round =>
    obtain ⟨k, hk, rfl, hown, hbl⟩ := hrel; have HOW := hid hown; have HBL := hid hbl; have hsz : w'.heap.size ≤ wr.heap.size := hbl.size
    by_cases hlt : k < n
    · have e1 : wr.cell? ⟨b1, o1 + k, none⟩ = some (.int .i64 (zs.getD k 0)) := by rw [hbl.cell (p := ⟨b1, o1 + k, none⟩) (lt_of_cell (H1.out k hlt))]; exact H1.out k hlt
      have e2 : wr.cell? ⟨b2, o2 + k, none⟩ = some (.int .i64 (ys.getD k 0)) := by rw [hbl.cell (p := ⟨b2, o2 + k, none⟩) (lt_of_cell (H2.out k hlt))]; exact H2.out k hlt
      obtain ⟨x, hx⟩ : ∃ x, x = zs.getD k 0 := ⟨_, rfl⟩; obtain ⟨y, hy⟩ : ∃ y, y = ys.getD k 0 := ⟨_, rfl⟩; rw [← hx] at e1; rw [← hy] at e2
      obtain ⟨z, e3⟩ : ∃ z, wr.cell? ⟨w'.heap.size, k, none⟩ = some z := by
        rw [hown.cellAt k (by omega), List.getElem?_eq_getElem (by rw [List.length_map, mid_length]; omega)]; exact ⟨_, rfl⟩
      have e4 := hown.frozenAt k; have hi' : (k : Int) < (n : Int) := by omega
      have HX := hid hx; have HYY := hid hy; clear hx hy hown hbl hE1; go_wp2
      go_region_with (go_at_call 68; refine (max_any _ _ _).mono ?_; rintro e w2 ⟨rfl, rfl⟩)
      all_goals
        go_wp2; go_roundw
        case rel =>
          refine ⟨k + 1, by omega, by go_num, ?_, ?_⟩
          · have hs := (HOW.out.stored k (.int .i64 (mxI x y))).1; rw [set_map, HX.out, HYY.out, mid_succ] at hs; rw [HX.out, HYY.out]; exact hs
          · exact (HBL.out.setCell (p := ⟨w'.heap.size, k, none⟩) (Nat.le_refl _) _).drew
        case measure => simp [intOf]; omega
    · obtain rfl : k = n := by omega
      clear hown hbl; go_wp2
      go_ret2
      refine ⟨_, rfl, ?_, HBL.out⟩; have e : comb mxI zs ys = mid mxI zs ys k k := by unfold comb; rw [HZ.out]
      rw [e]; refine intsT_of_owns (base := w'.heap.size) ?_; rw [mid_length]; exact HOW.out
set_option maxHeartbeats 1000000 in
theorem Most_ok (A : Nat → Addr) (w : World) (hE : E4 A w) (v u : Value) (zs ys : List Int) (h1 : IntsAt w v zs) (h2 : IntsAt w u ys) (h0 : two zs ys = 0) :
    Calls Tryz.prog 44 #[v, u] w fun e w' => ∃ r, e = .returned (.tuple #[r, .nilIface]) ∧ IntsT w' r (comb mxI zs ys) ∧ Below w.heap.size w w' := by
  obtain ⟨hz, hy, hn⟩ := two_zero.1 h0; have hz' := chk_zero.1 hz; obtain ⟨b1, o1, c1, rfl, g1⟩ := h1.some hz'.1; obtain ⟨b2, o2, c2, rfl, g2⟩ := h2.some (by omega); rw [← hn] at g2 ⊢; have K1 := hid (most_n A w hE b1 o1 c1 b2 o2 c2 zs.length zs ys rfl hn.symm h0 hz'.2.1 g1 g2); clear g1 g2 h0 hz hy hn hz' h1 h2; go_enter Tryz.func44, Tryz.ntmps44; go_wp2_with fail; refine K1.out.mono ?_; rintro e w' ⟨r, rfl, hr, hb⟩; go_wp2
  go_ret2
  exact ⟨r, rfl, hr, hb⟩
end Go.Proofs.YtdnebclemngdcaaGreatDoor
namespace Go.Proofs.YtdnebclemngdcaaGreatDoor
open Go.RowKit Go.Sort Go.Maps
set_option maxRecDepth 100000
set_option linter.unusedSectionVars false
variable [Inhabited ComV] [DecidableEq D3] [Inhabited D3] [Inhabited Dd] [Inhabited Dn] [Inhabited OpV]

theorem has_none {L : List ComV} {d : D3} (h : ∀ j, j < L.length → d ∉ dotsC L[j]!) : decide (d ∈ L.flatMap dotsC) = false := decide_eq_false fun hm => by
  obtain ⟨c, hc, hd⟩ := List.mem_flatMap.1 hm; obtain ⟨j, hj, rfl⟩ := List.getElem_of_mem hc; exact h j hj (by rw [getElem!_pos L j hj]; exact hd)
theorem has_yes {L : List ComV} {d : D3} {j i : Nat} (hj : j < L.length) (hi : i < L[j]!.ops.length) (hd : dotC L[j]! L[j]!.ops[i]! = d) : decide (d ∈ L.flatMap dotsC) = true := by
  refine decide_eq_true (List.mem_flatMap.2 ⟨L[j]!, by rw [getElem!_pos L j hj]; exact List.getElem_mem _, ?_⟩); exact List.mem_map.2 ⟨L[j]!.ops[i]!, by rw [getElem!_pos L[j]!.ops i hi]; exact List.getElem_mem _, hd⟩
theorem not_dots {c : ComV} {d : D3} (h : c.place ≠ d.p ∨ c.when_.getD c.place.toNat 0 ≠ d.t) : d ∉ dotsC c := fun hm => by
  obtain ⟨o, _, rfl⟩ := List.mem_map.1 hm; rcases h with h | h
  · exact h rfl
  · exact h rfl
theorem not_dots_ops {c : ComV} {d : D3} (h : ∀ i, i < c.ops.length → c.ops[i]!.at_ ≠ d.a) : d ∉ dotsC c := fun hm => by
  obtain ⟨o, ho, rfl⟩ := List.mem_map.1 hm; obtain ⟨i, hi, rfl⟩ := List.getElem_of_mem ho; exact h i hi (by rw [getElem!_pos c.ops i hi]; rfl)
set_option maxHeartbeats 4000000 in
theorem rHas (w : World) (q : Nat) (bv lv : Value) (hq : w.heap[q]? = some (.cells #[bv, lv] 73 (0, 0))) (L : List ComV) (hL : ComsAt w lv L) (hok : ∀ c ∈ L, ComOk c) (hl : L.length ≤ 1000) (d : D3) :
    Calls Tryz.prog 56 #[.pointer (some ⟨q, 0, none⟩), .agg #[.int .i64 d.p, .int .i64 d.t, .int .i64 d.a]] w fun e w' => e = .returned (.bool (decide (d ∈ L.flatMap dotsC))) ∧ Below w.heap.size w w' := by
  obtain ⟨la, lc, rfl, _, _, hrow⟩ := hL.shape; obtain ⟨n, hn⟩ : ∃ n, n = L.length := ⟨_, rfl⟩; have c1 : w.cell? ⟨q, 1, none⟩ = some (.slice la n lc) := by rw [hn]; simp only [World.cell?, hq]; rfl
  have HN := hid hn; have HR := hid hrow; have HOK := hid hok; have C1 := hid c1; rw [← hn] at hl; obtain ⟨dp, dt, da⟩ := d; obtain ⟨B0, hB0⟩ : ∃ B0, B0 = w.heap.size := ⟨_, rfl⟩; have HB0 := hid hB0; have X0 : Hid ((w.alloc (.cells #[.int .i64 dp, .int .i64 dt, .int .i64 da] 87)).heap[B0]? = some (.cells #[.int .i64 dp, .int .i64 dt, .int .i64 da] 87 (0, 0))) := by rw [hB0]; exact (MapKept.heap_alloc _ _).1
  obtain ⟨res, hres⟩ : ∃ res, res = decide ((⟨dp, dt, da⟩ : D3) ∈ L.flatMap dotsC) := ⟨_, rfl⟩; rw [← hres]; have HRS := hid hres; clear hL hrow hok hn hq hres; go_enter Tryz.func56, Tryz.ntmps56; go_wp2_with fail; rw [← hB0]; clear hB0 c1
  go_loopw [5] (fun i wr => ∃ k : Nat, k ≤ n ∧ i = .int .i64 k ∧ Hid (∀ j, j < k → (⟨dp, dt, da⟩ : D3) ∉ dotsC L[j]!) ∧ Hid (Below w.heap.size w wr) ∧ Hid (wr.heap[B0]? = some (.cells #[.int .i64 dp, .int .i64 dt, .int .i64 da] 87 (0, 0)))) (fun i _ => n - (intOf i).toNat)
  case atStart => exact ⟨0, Nat.zero_le _, rfl, fun t ht => absurd ht (Nat.not_lt_zero _), below_alloc _ _, X0.out⟩
  case round =>
    obtain ⟨k, hk, rfl, JN, JB, JX⟩ := hrel; have up : ∀ {a : Addr} {v : Value}, w.cell? a = some v → wr.cell? a = some v := fun {a v} h => by rw [JB.out.cell (lt_of_cell h)]; exact h
    have d1 := up C1.out; have x0 : wr.cell? ⟨B0, 0, none⟩ = some (.int .i64 dp) := by simp only [World.cell?, JX.out]; rfl
    have x1 : wr.cell? ⟨B0, 1, none⟩ = some (.int .i64 dt) := by simp only [World.cell?, JX.out]; rfl
    have x2 : wr.cell? ⟨B0, 2, none⟩ = some (.int .i64 da) := by simp only [World.cell?, JX.out]; rfl
    by_cases hlt : k < n
    · have hkl : k < L.length := by rw [← HN.out]; exact hlt
      obtain ⟨b, off, rfl, hr'⟩ := HR.out.resolve_left (fun h => by rw [h] at hkl; simp at hkl); obtain ⟨wv, ov, hw, ho, q0, q1, q2⟩ := hr' k hkl; have hC := HOK.out L[k]! (by rw [getElem!_pos L k hkl]; exact List.getElem_mem _); obtain ⟨c, hce⟩ : ∃ c, c = L[k]! := ⟨_, rfl⟩; rw [← hce] at hw ho q1 hC; have HCE := hid hce; have HC := hid hC; obtain ⟨pn, hpn⟩ : ∃ pn : Nat, c.place = pn := ⟨c.place.toNat, by have := hC.lo; omega⟩; have hplt : pn < c.when_.length := by have := hC.hi; omega
      obtain ⟨b1, o1, c1', hwe, g1⟩ := hw.some (by omega : 1 ≤ c.when_.length); subst hwe; obtain ⟨a2, c2, hoe, _, _, ho2⟩ := ho.shape; subst hoe; obtain ⟨b2, o2, ha2, ho3⟩ := ho2.resolve_left hC.some_; subst ha2; have ct := up (g1 pn hplt); obtain ⟨T, hT⟩ : ∃ T, T = c.when_.getD pn 0 := ⟨_, rfl⟩; rw [← hT] at ct; have r0 := up q0; have r1 := up q1; have r2 := up q2; rw [hpn] at r1; obtain ⟨nw, hnw⟩ : ∃ nw, nw = c.when_.length := ⟨_, rfl⟩; obtain ⟨no, hno⟩ : ∃ no, no = c.ops.length := ⟨_, rfl⟩; rw [← hnw] at r0 hplt; rw [← hno] at r2; have hno12 : no ≤ 12 := by rw [hno]; exact hC.few
      have HO3 := hid ho3; have HT := hid hT; have HPN := hid hpn; have HNO := hid hno; have hi1 : (k : Int) < (n : Int) := by omega
      have hp9 : (pn : Int) < (nw : Int) := by omega
      clear q0 q1 q2 g1 hw ho ho2 ho3 hr' hce hC hT hpn hnw hno up; obtain ⟨wq, hwq⟩ : ∃ wq, wq = wr.alloc (.cells #[.slice (some ⟨b1, o1, none⟩) nw c1', .int .i64 pn, .slice (some ⟨b2, o2, none⟩) no c2] 34) := ⟨_, rfl⟩; have hbq : Below wr.heap.size wr wq := by rw [hwq]; exact below_alloc _ _
      have hcx : wq.heap[wr.heap.size]? = some (.cells #[.slice (some ⟨b1, o1, none⟩) nw c1', .int .i64 pn, .slice (some ⟨b2, o2, none⟩) no c2] 34 (0, 0)) := by rw [hwq]; exact (MapKept.heap_alloc _ _).1
      have upq : ∀ {a : Addr} {v : Value}, wr.cell? a = some v → wq.cell? a = some v := fun {a v} h => by rw [hbq.cell (lt_of_cell h)]; exact h
      have y0 : wq.cell? ⟨wr.heap.size, 0, none⟩ = some (.slice (some ⟨b1, o1, none⟩) nw c1') := by simp only [World.cell?, hcx]; rfl
      have y1 : wq.cell? ⟨wr.heap.size, 1, none⟩ = some (.int .i64 pn) := by simp only [World.cell?, hcx]; rfl
      have y2 : wq.cell? ⟨wr.heap.size, 2, none⟩ = some (.slice (some ⟨b2, o2, none⟩) no c2) := by simp only [World.cell?, hcx]; rfl
      have z0 := upq x0; have z1 := upq x1; have z2 := upq x2; have zt := upq ct; have BQ := hid (JB.out.trans (hbq.mono JB.out.size)); have XQ := hid ((hbq.block B0 (lt_of_heap JX.out)).trans JX.out); have CX := hid hcx; have HBQ := hid hbq; clear hbq hcx upq; go_wp2_with fail; rw [← hwq]; clear hwq d1 r0 r1 r2 ct x0 x1 x2
      by_cases hp1 : (pn : Int) = dp
      · have hb1 : ((pn : Int) != dp) = false := by simpa using hp1
        have HP1 := hid hp1; clear hp1
        by_cases hp2 : T = dt
        · have hb2 : (T != dt) = false := by simpa using hp2
          have HP2 := hid hp2; clear hp2
          go_quiet (fail)
          obtain ⟨wz, hwz⟩ : ∃ wz, wz = wq.drewN nq := ⟨_, rfl⟩; rw [← hwz]; have hbz : Below wq.heap.size wq wz := by rw [hwz]; exact below_draws (Below.refl _ _) _
          have BZ := hid (BQ.out.trans (hbz.mono BQ.out.size)); have XZ := hid ((hbz.block B0 (lt_of_heap XQ.out)).trans XQ.out); have CZ := hid ((hbz.block _ (lt_of_heap CX.out)).trans CX.out); have v2 : wz.cell? ⟨wr.heap.size, 2, none⟩ = some (.slice (some ⟨b2, o2, none⟩) no c2) := by simp only [World.cell?, CZ.out]; rfl
          obtain ⟨cb, hcb⟩ : ∃ cb, cb = wr.heap.size := ⟨_, rfl⟩; rw [← hcb] at CZ v2 ⊢; clear hwz hbz y0 y1 y2 z0 z1 z2 zt hb1 hb2 CX XQ BQ HBQ hcb; go_wp2_with fail; obtain ⟨w5, hw5⟩ : ∃ w5, w5 = wr := ⟨_, rfl⟩; rw [← hw5] at JB JX; subst hw5
          go_loopw [7] (fun i wr => ∃ t : Nat, t ≤ no ∧ i = .int .i64 t ∧ Hid (∀ j, j < t → c.ops[j]!.at_ ≠ da) ∧ Hid (Below w.heap.size w wr) ∧ Hid (wr.heap[B0]? = some (.cells #[.int .i64 dp, .int .i64 dt, .int .i64 da] 87 (0, 0))) ∧ Hid (wr.heap[cb]? = some (.cells #[.slice (some ⟨b1, o1, none⟩) nw c1', .int .i64 pn, .slice (some ⟨b2, o2, none⟩) no c2] 34 (0, 0)))) (fun i _ => no - (intOf i).toNat)
          case atStart => exact ⟨0, Nat.zero_le _, rfl, fun t ht => absurd ht (Nat.not_lt_zero _), BZ.out, XZ.out, CZ.out⟩
          case round =>
            obtain ⟨t, ht, rfl, TN, TB, TX, TC⟩ := hrel; have t2 : wr.cell? ⟨cb, 2, none⟩ = some (.slice (some ⟨b2, o2, none⟩) no c2) := by simp only [World.cell?, TC.out]; rfl
            have x2 : wr.cell? ⟨B0, 2, none⟩ = some (.int .i64 da) := by simp only [World.cell?, TX.out]; rfl
            by_cases htl : t < no
            · obtain ⟨dp', dc', _, s0, _⟩ := HO3.out t (by have := HNO.out; omega); have u0 := (TB.out.cell (lt_of_cell s0)).trans s0; obtain ⟨x, hx⟩ : ∃ x, x = c.ops[t]!.at_ := ⟨_, rfl⟩; rw [← hx] at u0; have HX := hid hx; have hi2 : (t : Int) < (no : Int) := by omega
              clear s0 hx
              by_cases hxa : x = da
              · have hb3 : (x == da) = true := by simpa using hxa
                have HRES := hid (has_yes (L := L) (d := ⟨dp, dt, da⟩) (j := k) (i := t) hkl (by rw [← HCE.out, ← HNO.out]; exact htl) (by
                  rw [← HCE.out]; unfold dotC; rw [HPN.out, Int.toNat_natCast, ← HT.out, HP1.out, HP2.out, ← HX.out, hxa]))
                have HXA := hid hxa; clear hxa; go_wp2_with fail
                go_quiet (fail)
                go_wp2_with fail; go_ret
                exact ⟨ret_bool (HRS.out.trans HRES.out).symm, below_draws TB.out _⟩
              · have hb3 : (x == da) = false := by simpa using hxa
                have HXA := hid hxa; clear hxa; go_wp2_with fail
                go_quiet (fail)
                go_wp2_with fail; refine ⟨⟨t + 1, by omega, by go_num, fun j hj => ?_, below_draws TB.out _, TX.out, TC.out⟩, by simp [intOf]; omega⟩
                rcases Nat.lt_succ_iff_lt_or_eq.1 hj with h | rfl
                · exact TN.out j h
                · rw [← HX.out]; exact HXA.out
            · obtain rfl : t = no := by omega
              have hi2 : ¬ (t : Int) < (t : Int) := by omega
              have TND := hid (not_dots_ops (c := c) (d := ⟨dp, dt, da⟩) (fun i hi => TN.out i (by rw [HNO.out]; exact hi))); go_wp2_with fail; refine ⟨⟨k + 1, by omega, by go_num, fun j hj => ?_, TB.out, TX.out⟩, by simp [intOf]; omega⟩; rcases Nat.lt_succ_iff_lt_or_eq.1 hj with h | rfl
              · exact JN.out j h
              · rw [← HCE.out]; exact TND.out
        · have hb2 : (T != dt) = true := by simpa using hp2
          have HND := hid (not_dots (c := c) (d := ⟨dp, dt, da⟩) (.inr (by rw [HPN.out, Int.toNat_natCast, ← HT.out]; exact hp2))); clear hp2
          go_quiet (fail)
          go_wp2_with fail; refine ⟨⟨k + 1, by omega, by go_num, fun j hj => ?_, below_draws BQ.out _, XQ.out⟩, by simp [intOf]; omega⟩
          rcases Nat.lt_succ_iff_lt_or_eq.1 hj with h | rfl
          · exact JN.out j h
          · rw [← HCE.out]; exact HND.out
      · have hb1 : ((pn : Int) != dp) = true := by simpa using hp1
        have HND := hid (not_dots (c := c) (d := ⟨dp, dt, da⟩) (.inl (by rw [HPN.out]; exact hp1))); clear hp1
        go_quiet (fail)
        go_wp2_with fail; refine ⟨⟨k + 1, by omega, by go_num, fun j hj => ?_, below_draws BQ.out _, XQ.out⟩, by simp [intOf]; omega⟩
        rcases Nat.lt_succ_iff_lt_or_eq.1 hj with h | rfl
        · exact JN.out j h
        · rw [← HCE.out]; exact HND.out
    · obtain rfl : k = n := by omega
      have hi2 : ¬ (k : Int) < (k : Int) := by omega
      have HRES := hid (has_none (L := L) (d := ⟨dp, dt, da⟩) (fun j hj => JN.out j (by rw [HN.out]; exact hj))); clear up x0 x1 x2; go_wp2_with fail; go_ret; exact ⟨ret_bool (HRS.out.trans HRES.out).symm, JB.out⟩
end Go.Proofs.YtdnebclemngdcaaGreatDoor
namespace Go.Proofs.YtdnebclemngdcaaGreatDoor
open Go.RowKit Go.Sort Go.Maps
set_option maxRecDepth 100000
set_option linter.unusedSectionVars false
variable [Inhabited ComV] [DecidableEq D3] [Inhabited D3] [Inhabited Dd] [Inhabited Dn] [Inhabited OpV]

def vecE (zs base : List Int) : Nat := if chk zs = 0 then (if zs.length = base.length then 0 else 3) else (chk zs).toNat
theorem vecE_zero {zs base : List Int} (h : vecE zs base = 0) : chk zs = 0 ∧ zs.length = base.length := by
  unfold vecE at h
  split at h
  · rename_i h0
    split at h
    · rename_i h1; exact ⟨h0, h1⟩
    · exact absurd h (by decide)
  · rename_i h0
    rcases chk_cases zs with e | e | e
    · exact absurd e h0
    · rw [e] at h; exact absurd h (by decide)
    · rw [e] at h; exact absurd h (by decide)
set_option maxHeartbeats 2000000 in
theorem checkVector_e (A : Nat → Addr) (w : World) (hE : E4 A w) (p : Nat) (bv : Value) (base : List Int) (m1 m2 : Value) (hp : w.heap[p]? = some (.cells #[bv, m1, m2] 83 (0, 0))) (hb : IntsAt w bv base) (v : Value) (zs : List Int) (h : IntsAt w v zs) (hl : zs.length ≤ 1000000) (k : Nat) (h0 : vecE zs base = k + 1) :
    Calls Tryz.prog 37 #[.pointer (some ⟨p, 0, none⟩), v] w fun e w' => e = .returned (.iface 255 (.pointer (some (A k)))) ∧ w' = w := by
  unfold vecE at h0
  by_cases hz : chk zs = 0
  · rw [if_pos hz] at h0; have hnl : zs.length ≠ base.length := fun e => by rw [if_pos e] at h0; cases h0
    rw [if_neg hnl] at h0; obtain rfl : k = 2 := by omega
    have K := check_ok A w hE v zs h hz; have hne : ((zs.length : Int) != (base.length : Int)) = true := by rw [bne_iff_ne]; intro e; exact hnl (by omega)
    obtain ⟨a1, c1, rfl⟩ := h.slice; obtain ⟨a2, c2, rfl⟩ := hb.slice; have c0 : w.cell? ⟨p, 0, none⟩ = some (.slice a2 base.length c2) := by simp only [World.cell?, hp]; rfl
    have g3 := hE.shape; clear h hz hb hp h0 hnl; go_enter Tryz.func37, Tryz.ntmps37; go_wp2_with fail; refine K.mono ?_; rintro e w' ⟨rfl, rfl⟩; go_wp2; go_ret; exact ⟨rfl, rfl⟩
  · rw [if_neg hz] at h0; have K := check_bad A w hE v zs h hl hz; obtain ⟨a1, c1, rfl⟩ := h.slice; have hkk : (chk zs).toNat - 1 = k := by omega
    rw [hkk] at K; clear h hz hb hp h0 hkk; go_enter Tryz.func37, Tryz.ntmps37; go_wp2_with fail; refine K.mono ?_; rintro e w' ⟨rfl, rfl⟩; go_wp2; go_ret; exact ⟨rfl, rfl⟩
def atE (key : ByteArray) (at_ base : List Int) : Nat := if nameB key = true then (if vecE at_ base = 0 then (if leB base at_ = true then 0 else 9) else vecE at_ base) else 4
theorem atE_zero {key : ByteArray} {at_ base : List Int} (h : atE key at_ base = 0) : nameB key = true ∧ chk at_ = 0 ∧ at_.length = base.length ∧ leB base at_ = true := by
  unfold atE at h
  split at h
  · rename_i h0
    split at h
    · rename_i h1
      split at h
      · rename_i h2; exact ⟨h0, (vecE_zero h1).1, (vecE_zero h1).2, h2⟩
      · exact absurd h (by decide)
    · rename_i h1; exact absurd h h1
  · exact absurd h (by decide)
end Go.Proofs.YtdnebclemngdcaaGreatDoor
namespace Go.Proofs.YtdnebclemngdcaaGreatDoor
open Go.RowKit
set_option maxRecDepth 100000
set_option linter.unusedSectionVars false
variable [Inhabited ComV] [DecidableEq D3] [Inhabited D3] [Inhabited Dd] [Inhabited Dn] [Inhabited OpV]

set_option maxHeartbeats 1000000 in
theorem in_n (w : World) (b1 o1 c1 b2 o2 c2 n : Nat) (zs ys : List Int) (hz : zs.length = n) (hy : ys.length = n) (hl : n ≤ 1000000)
    (h1 : ∀ t, t < n → w.cell? ⟨b1, o1 + t, none⟩ = some (.int .i64 (zs.getD t 0)))
    (h2 : ∀ t, t < n → w.cell? ⟨b2, o2 + t, none⟩ = some (.int .i64 (ys.getD t 0))) :
    Calls Tryz.prog 55 #[.slice (some ⟨b1, o1, none⟩) n c1, .slice (some ⟨b2, o2, none⟩) n c2] w fun e w' => e = .returned (.bool (leB zs ys)) ∧ ∃ q, w' = w.drewN q := by
  have HZ : Hid (zs.length = n) := hz; have HY : Hid (ys.length = n) := hy; have H1 := hid h1; have H2 := hid h2; clear hz hy h1 h2; go_enter Tryz.func55, Tryz.ntmps55; go_wp2
  go_loopw [5] (fun i wr => ∃ k q : Nat, k ≤ n ∧ i = .int .i64 k ∧ (∀ t, t < k → zs.getD t 0 ≤ ys.getD t 0) ∧ wr = w.drewN q) (fun i _ => n - (intOf i).toNat)
  case atStart => exact ⟨0, 0, Nat.zero_le _, rfl, fun t ht => absurd ht (Nat.not_lt_zero _), rfl⟩
  case round =>
    obtain ⟨k, q, hk, rfl, heq, hq⟩ := hrel; have HE := hid heq; have HQ := hid hq; have e1' : k < n → wr.cell? ⟨b1, o1 + k, none⟩ = some (.int .i64 (zs.getD k 0)) := fun h => by rw [hq]; exact H1.out k h
    have e2' : k < n → wr.cell? ⟨b2, o2 + k, none⟩ = some (.int .i64 (ys.getD k 0)) := fun h => by rw [hq]; exact H2.out k h
    clear heq hq
    by_cases hlt : k < n
    · have e1 := e1' hlt; have e2 := e2' hlt; clear e1' e2'; obtain ⟨x, hx⟩ : ∃ x, x = zs.getD k 0 := ⟨_, rfl⟩; obtain ⟨y, hy⟩ : ∃ y, y = ys.getD k 0 := ⟨_, rfl⟩; rw [← hx] at e1; rw [← hy] at e2; have HX := hid hx; have HYY := hid hy; have hi : (k : Int) < (n : Int) := by omega
      clear hx hy
      by_cases hd : x ≤ y
      · have hb : decide (y < x) = false := decide_eq_false (by omega); go_wp2
        go_quiet (fail)
        go_wp2; go_roundw
        case rel =>
          refine ⟨k + 1, _, by omega, by go_num, fun t ht => ?_, draws2 HQ.out⟩; rcases Nat.lt_succ_iff_lt_or_eq.1 ht with h | rfl
          · exact HE.out t h
          · rw [← HX.out, ← HYY.out]; exact hd
        case measure => simp [intOf]; omega
      · have hb : decide (y < x) = true := decide_eq_true (by omega); go_wp2
        go_quiet (fail)
        go_wp2; go_ret
        refine ⟨ret_bool ?_, _, draws2 HQ.out⟩; rw [eq_comm, Bool.eq_false_iff]; intro h; have := leB_iff.1 h k (by have := HZ.out; omega); rw [← HX.out, ← HYY.out] at this; omega
    · obtain rfl : k = n := by omega
      go_wp2; go_ret
      exact ⟨ret_bool (leB_iff.2 (fun i hi => HE.out i (by have := HZ.out; omega))).symm, _, HQ.out⟩

theorem in_any (w : World) (v u : Value) (zs ys : List Int) (h1 : IntsAt w v zs) (h2 : IntsAt w u ys) (hn : zs.length = ys.length) (h0 : 1 ≤ zs.length) (hl : zs.length ≤ 1000000) :
    Calls Tryz.prog 55 #[v, u] w fun e w' => e = .returned (.bool (leB zs ys)) ∧ ∃ q, w' = w.drewN q := by
  obtain ⟨a1, c1, rfl, _, h1⟩ := h1; obtain ⟨a2, c2, rfl, _, h2⟩ := h2; rcases h1 with rfl | ⟨b1, o1, rfl, h1⟩
  · simp at h0
  rcases h2 with rfl | ⟨b2, o2, rfl, h2⟩
  · rw [hn] at h0; simp at h0
  rw [← hn] at h2 ⊢; exact in_n w b1 o1 c1 b2 o2 c2 zs.length zs ys rfl hn.symm hl h1 h2

set_option maxHeartbeats 1000000 in
theorem sameInts_n (w : World) (b1 o1 c1 b2 o2 c2 n : Nat) (zs ys : List Int) (hz : zs.length = n) (hy : ys.length = n) (hl : n ≤ 1000000)
    (h1 : ∀ t, t < n → w.cell? ⟨b1, o1 + t, none⟩ = some (.int .i64 (zs.getD t 0)))
    (h2 : ∀ t, t < n → w.cell? ⟨b2, o2 + t, none⟩ = some (.int .i64 (ys.getD t 0))) :
    Calls Tryz.prog 33 #[.slice (some ⟨b1, o1, none⟩) n c1, .slice (some ⟨b2, o2, none⟩) n c2] w fun e w' => e = .returned (.bool (decide (zs = ys))) ∧ ∃ q, w' = w.drewN q := by
  have HZ : Hid (zs.length = n) := hz; have HY : Hid (ys.length = n) := hy; have H1 : Hid (∀ t, t < n → w.cell? ⟨b1, o1 + t, none⟩ = some (.int .i64 (zs.getD t 0))) := h1; have H2 : Hid (∀ t, t < n → w.cell? ⟨b2, o2 + t, none⟩ = some (.int .i64 (ys.getD t 0))) := h2; clear hz hy h1 h2; go_enter Tryz.func33, Tryz.ntmps33; go_wp2
  go_loopw [5] (fun i wr => ∃ k q : Nat, k ≤ n ∧ i = .int .i64 k ∧ (∀ t, t < k → zs.getD t 0 = ys.getD t 0) ∧ wr = w.drewN q) (fun i _ => n - (intOf i).toNat)
  case atStart => exact ⟨0, 0, Nat.zero_le _, rfl, fun t ht => absurd ht (Nat.not_lt_zero _), rfl⟩
  case round =>
    obtain ⟨k, q, hk, rfl, heq, rfl⟩ := hrel; have HE : Hid (∀ t, t < k → zs.getD t 0 = ys.getD t 0) := heq; clear heq
    by_cases hlt : k < n
    · have e1 := H1.out k hlt; have e2 := H2.out k hlt
      by_cases hd : zs.getD k 0 = ys.getD k 0
      · have hb : (zs[k]?.getD 0 != ys[k]?.getD 0) = false := by simpa using hd
        have hi : (k : Int) < (n : Int) := by omega
        go_wp2
        go_quiet (fail)
        go_wp2; go_roundw
        case rel => exact ⟨k + 1, _, by omega, by go_num, fun t ht => by rcases Nat.lt_succ_iff_lt_or_eq.1 ht with h | rfl; exact HE.out t h; exact hd, rfl⟩
        case measure => simp [intOf]; omega
      · have hb : (zs[k]?.getD 0 != ys[k]?.getD 0) = true := by simpa using hd
        have hi : (k : Int) < (n : Int) := by omega
        go_wp2
        go_quiet (fail)
        go_wp2; go_ret
        exact ⟨ret_bool (decide_eq_false (fun e => hd (by rw [e]))).symm, _, World.drewN_drewN _ _ _⟩
    · obtain rfl : k = n := by omega
      go_wp2; go_ret
      exact ⟨ret_bool (decide_eq_true (getD_ext HZ.out HY.out HE.out)).symm, _, rfl⟩

theorem sameInts_ne (w : World) (a1 a2 : Option Addr) (c1 c2 n m : Nat) (hne : n ≠ m) :
    Calls Tryz.prog 33 #[.slice a1 n c1, .slice a2 m c2] w fun e w' => e = .returned (.bool false) ∧ w' = w := by
  have hb : ((n : Int) != (m : Int)) = true := by rw [bne_iff_ne]; omega
  go_enter Tryz.func33, Tryz.ntmps33; go_wp2; go_ret; exact ⟨rfl, rfl⟩

theorem sameInts_nil (w : World) (a1 a2 : Option Addr) (c1 c2 : Nat) :
    Calls Tryz.prog 33 #[.slice a1 0 c1, .slice a2 0 c2] w fun e w' => e = .returned (.bool true) ∧ w' = w := by
  go_enter Tryz.func33, Tryz.ntmps33; go_wp2; refine wp_loop_rounds 1 ?_; rw [rounds_succ]; go_wp2; go_ret; exact ⟨rfl, rfl⟩

theorem sameInts (w : World) (v1 v2 : Value) (zs ys : List Int) (h1 : IntsAt w v1 zs) (h2 : IntsAt w v2 ys) (hl : zs.length ≤ 1000000) :
    Calls Tryz.prog 33 #[v1, v2] w fun e w' => e = .returned (.bool (decide (zs = ys))) ∧ ∃ q, w' = w.drewN q := by
  obtain ⟨a1, c1, rfl, _, h1⟩ := h1; obtain ⟨a2, c2, rfl, _, h2⟩ := h2
  by_cases hn : zs.length = ys.length
  · rcases h1 with rfl | ⟨b1, o1, rfl, h1⟩
    · obtain rfl : ys = [] := List.eq_nil_of_length_eq_zero hn.symm; refine (sameInts_nil w a1 a2 c1 c2).mono ?_; rintro e w' ⟨rfl, rfl⟩; exact ⟨rfl, 0, rfl⟩
    · rcases h2 with rfl | ⟨b2, o2, rfl, h2⟩
      · obtain rfl : zs = [] := List.eq_nil_of_length_eq_zero hn; refine (sameInts_nil w _ a2 c1 c2).mono ?_; rintro e w' ⟨rfl, rfl⟩; exact ⟨rfl, 0, rfl⟩
      · have h := sameInts_n w b1 o1 c1 b2 o2 c2 zs.length zs ys rfl hn.symm hl h1 (fun t ht => h2 t (by omega)); rw [hn] at h; rw [hn]; exact h
  · refine (sameInts_ne w a1 a2 c1 c2 _ _ hn).mono ?_; rintro e w' ⟨rfl, rfl⟩; exact ⟨ret_bool (decide_eq_false (fun e => hn (by rw [e]))).symm, 0, rfl⟩

def gone (F : Int → Int → Int) (zs ys : List Int) (k : Nat) : List Int := (List.range k).map fun i => F (zs.getD i 0) (ys.getD i 0)
theorem gone_length (F : Int → Int → Int) (zs ys : List Int) (k : Nat) : (gone F zs ys k).length = k := by simp [gone]
theorem gone_succ (F : Int → Int → Int) (zs ys : List Int) (k : Nat) : gone F zs ys (k + 1) = gone F zs ys k ++ [F (zs.getD k 0) (ys.getD k 0)] := by
  simp [gone, List.range_succ]
theorem gone_comb (F : Int → Int → Int) (zs ys : List Int) : gone F zs ys zs.length = comb F zs ys := by
  unfold gone comb mid; refine List.map_congr_left fun i hi => ?_
  rw [if_pos (List.mem_range.1 hi)]

theorem oneI (x : Int) : ∀ u ∈ [Value.int .i64 x], u.oneCell' = true := fun u hu => by simp at hu; subst hu; rfl
theorem mxI_lt {x y : Int} (h : x < y) : mxI x y = y := if_pos h
theorem mxI_ge {x y : Int} (h : ¬ x < y) : mxI x y = x := if_neg h

set_option maxHeartbeats 4000000 in
theorem refMost_n (w : World) (b1 o1 c1 b2 o2 c2 n : Nat) (zs ys : List Int) (hz : zs.length = n) (hl : n ≤ 6)
    (h1 : ∀ t, t < n → w.cell? ⟨b1, o1 + t, none⟩ = some (.int .i64 (zs.getD t 0)))
    (h2 : ∀ t, t < n → w.cell? ⟨b2, o2 + t, none⟩ = some (.int .i64 (ys.getD t 0))) :
    Calls Tryz.prog 31 #[.slice (some ⟨b1, o1, none⟩) n c1, .slice (some ⟨b2, o2, none⟩) n c2] w fun e w' => ∃ v, e = .returned v ∧ IntsT w' v (comb mxI zs ys) ∧ Below w.heap.size w w' := by
  have HZ : Hid (zs.length = n) := hz; have H1 := hid h1; have H2 := hid h2; obtain ⟨i0, hi, hz0, hz1, hz2⟩ := info_parts Tryz.info3n; clear hz h1 h2; go_enter Tryz.func31, Tryz.ntmps31; go_wp2
  go_loopw [5, 6] (fun v i wr => ∃ k : Nat, k ≤ n ∧ i = .int .i64 k ∧ wr.ownsRow w.heap.size 3 1 v k ((gone mxI zs ys k).map (Value.int .i64)) ∧ Below w.heap.size w wr) (fun _ i _ => n - (intOf i).toNat)
  case atStart => exact ⟨0, Nat.zero_le _, rfl, World.ownsRow_nil _ _ _ _, Below.refl _ _⟩
  case round =>
    obtain ⟨k, hk, rfl, hown, hbl⟩ := hrel; have HOW := hid hown; have HBL := hid hbl; have hsz : w.heap.size ≤ wr.heap.size := hbl.size
    by_cases hlt : k < n
    · have e1 : wr.cell? ⟨b1, o1 + k, none⟩ = some (.int .i64 (zs.getD k 0)) := by rw [hbl.cell (p := ⟨b1, o1 + k, none⟩) (lt_of_cell (H1.out k hlt))]; exact H1.out k hlt
      have e2 : wr.cell? ⟨b2, o2 + k, none⟩ = some (.int .i64 (ys.getD k 0)) := by rw [hbl.cell (p := ⟨b2, o2 + k, none⟩) (lt_of_cell (H2.out k hlt))]; exact H2.out k hlt
      obtain ⟨x, hx⟩ : ∃ x, x = zs.getD k 0 := ⟨_, rfl⟩; obtain ⟨y, hy⟩ : ∃ y, y = ys.getD k 0 := ⟨_, rfl⟩; rw [← hx] at e1; rw [← hy] at e2; have HX := hid hx; have HYY := hid hy; have hm1 : k + 1 ≤ maxLen := by unfold maxLen; omega
      have hm2 : (k + 1) * 8 ≤ 140737488355328 := by omega
      have hs5 : ∀ o, w.heap.size ≤ (wr.alloc o).heap.size := fun o => by simp; omega
      clear hx hy hown hbl
      by_cases hd : x < y
      · have HM := hid (mxI_lt hd)
        go_wp2_with (at_builtin; refine wpList_append_own _ rfl _ _ 23 rfl w.heap.size 3 i0 (.int .i64 0) 1 8 Tryz.underlying23 hi hz0 hz1 hz2 rfl (by decide) _ _ _ rfl (HOW.out.alloc _) ⟨wr.heap.size, 0, none⟩ 1 1 [.int .i64 y] rfl rfl (cell_one_new _ _ _) (oneI _) hm1 hm2 (hs5 _) ?_)
        intro v' w1 hown' hgrow' _
        have HO1 : Hid (w1.ownsRow w.heap.size 3 1 v' (k + 1) ((gone mxI zs ys (k + 1)).map (Value.int .i64))) := by
          have e : (gone mxI zs ys (k + 1)).map (Value.int .i64) = (gone mxI zs ys k).map (Value.int .i64) ++ [.int .i64 y] := by
            rw [gone_succ, List.map_append, ← HX.out, ← HYY.out, HM.out]; rfl
          rw [e]; exact hown'
        have HB1 : Hid (Below w.heap.size w w1) := (HBL.out.alloc hsz _).grown hgrow' (by simp; omega) (fun j hj => (HOW.out.lt j hj).1); clear hown' hgrow'; go_wp2; go_roundw
        case rel => exact ⟨k + 1, by omega, by go_num, HO1.out, HB1.out⟩
        case measure => simp [intOf]; omega
      · have HM := hid (mxI_ge hd)
        go_wp2_with (at_builtin; refine wpList_append_own _ rfl _ _ 23 rfl w.heap.size 3 i0 (.int .i64 0) 1 8 Tryz.underlying23 hi hz0 hz1 hz2 rfl (by decide) _ _ _ rfl (HOW.out.alloc _) ⟨wr.heap.size, 0, none⟩ 1 1 [.int .i64 x] rfl rfl (cell_one_new _ _ _) (oneI _) hm1 hm2 (hs5 _) ?_)
        intro v' w1 hown' hgrow' _
        have HO1 : Hid (w1.ownsRow w.heap.size 3 1 v' (k + 1) ((gone mxI zs ys (k + 1)).map (Value.int .i64))) := by
          have e : (gone mxI zs ys (k + 1)).map (Value.int .i64) = (gone mxI zs ys k).map (Value.int .i64) ++ [.int .i64 x] := by
            rw [gone_succ, List.map_append, ← HX.out, ← HYY.out, HM.out]; rfl
          rw [e]; exact hown'
        have HB1 : Hid (Below w.heap.size w w1) := (HBL.out.alloc hsz _).grown hgrow' (by simp; omega) (fun j hj => (HOW.out.lt j hj).1); clear hown' hgrow'; go_wp2; go_roundw
        case rel => exact ⟨k + 1, by omega, by go_num, HO1.out, HB1.out⟩
        case measure => simp [intOf]; omega
    · obtain rfl : k = n := by omega
      clear hown hbl; go_wp2; go_ret; refine ⟨_, rfl, ?_, HBL.out⟩; rw [← gone_comb]; refine intsT_of_owns (base := w.heap.size) ?_; rw [gone_length, HZ.out]; exact HOW.out

theorem refMost_any (w : World) (v u : Value) (zs ys : List Int) (h1 : IntsAt w v zs) (h2 : IntsAt w u ys) (h0 : two zs ys = 0) :
    Calls Tryz.prog 31 #[v, u] w fun e w' => ∃ r, e = .returned r ∧ IntsT w' r (comb mxI zs ys) ∧ Below w.heap.size w w' := by
  obtain ⟨hz, hy, hn⟩ := two_zero.1 h0; have hz' := chk_zero.1 hz; obtain ⟨b1, o1, c1, rfl, g1⟩ := h1.some hz'.1; obtain ⟨b2, o2, c2, rfl, g2⟩ := h2.some (by omega); rw [← hn] at g2 ⊢; exact refMost_n w b1 o1 c1 b2 o2 c2 zs.length zs ys rfl hz'.2.1 g1 g2

theorem made_ints {w w1 : World} {n : Nat} (h3 : w1.ownsRow w.heap.size 3 1 (.slice (some ⟨w.heap.size, 0, none⟩) n n) n (madeCells #[Value.int .i64 0] n).toList) : w1.ownsRow w.heap.size 3 1 (.slice (some ⟨w.heap.size, 0, none⟩) n n) n ((List.replicate n (0 : Int)).map (Value.int .i64)) := by
  rw [toList_madeCells_one] at h3; rw [List.map_replicate]; exact h3
theorem intsT_made {w : World} {base : Nat} {v : Value} {n : Nat} {zs : List Int} (hn : zs.length = n) (h : w.ownsRow base 3 1 v n (zs.map (Value.int .i64))) : IntsT w v zs := intsT_of_owns (base := base) (by rw [hn]; exact h)
set_option maxHeartbeats 1000000 in
theorem rNew_ok (w : World) (n : Nat) (h1 : 1 ≤ n) (h6 : n ≤ 6) : Calls Tryz.prog 20 #[.int .i64 n] w fun e w' => ∃ q bv, e = .returned (.pointer (some ⟨q, 0, none⟩)) ∧ w.heap.size ≤ q ∧ w'.heap[q]? = some (.cells #[bv, .slice none 0 0] 73 (0, 0)) ∧ IntsT w' bv (List.replicate n 0) ∧ Below w.heap.size w w' := by
  obtain ⟨i0, hi, hz0, hz1, hz2⟩ := info_parts Tryz.info3n; go_enter Tryz.func20, Tryz.ntmps20
  go_wp2_with (refine wpList_make_full _ rfl _ _ 23 rfl w.heap.size 3 i0 (.int .i64 0) 1 Tryz.underlying23 hi hz0 hz1 .i64 .i64 _ _ n rfl rfl rfl rfl ?b2 ?b3 ?b4 ?_)
  case b2 => rw [hz2]; omega
  case b3 => unfold maxLen; omega
  case b4 => exact Nat.le_refl _
  intro w1 hown hgrow; have HO := hid hown; have HG := hid hgrow; clear hown hgrow; go_wp2; go_ret; have hb : Below w.heap.size w w1 := ⟨HG.out.os, HG.out.tape, HG.out.output, HG.out.size, fun i hi => HG.out.block i hi (by simp)⟩; refine ⟨w1.heap.size, _, rfl, hb.size, (MapKept.heap_alloc _ _).1, RowT.kept (intsT_made (by simp) (made_ints HO.out)) (keepT_alloc _ _ _), hb.alloc hb.size _⟩
set_option maxHeartbeats 1000000 in
theorem base_ok (w : World) (p : Nat) (bv : Value) (base : List Int) (m1 m2 : Value) (hp : w.heap[p]? = some (.cells #[bv, m1, m2] 83 (0, 0))) (hb : IntsAt w bv base) (hl : base.length ≤ 1000000) :
    Calls Tryz.prog 34 #[.pointer (some ⟨p, 0, none⟩)] w fun e w' => ∃ v, e = .returned v ∧ IntsAt w' v base ∧ Below w.heap.size w w' := by
  have K42 := hid (clone_ints w bv base hb hl); obtain ⟨ba, bc, rfl⟩ := hb.slice; have c0 : w.cell? ⟨p, 0, none⟩ = some (.slice ba base.length bc) := by simp only [World.cell?, hp]; rfl
  clear hp hb; go_enter Tryz.func34, Tryz.ntmps34; go_wp2_with fail; refine K42.out.mono ?_; rintro e w4 ⟨a4, c4, rfl, hT4, hb4⟩; have HT4 := hid hT4; have HB4 := hid hb4; clear hT4 hb4; go_wp2_with fail; go_ret; exact ⟨_, rfl, HT4.out.at, HB4.out⟩
theorem set_rep (n : Nat) (t : Int) {k : Nat} (hk : k < n) : ((List.replicate k t ++ List.replicate (n - k) (0 : Int)).map (Value.int .i64)).set k (.int .i64 t) = (List.replicate (k + 1) t ++ List.replicate (n - (k + 1)) (0 : Int)).map (Value.int .i64) := by
  rw [← List.map_set]
  congr 1
  refine List.ext_getElem (by simp; omega) fun i h1 h2 => ?_
  rw [List.getElem_set]; simp only [List.getElem_append, List.length_replicate, List.getElem_replicate]
  split
  · rename_i e; subst e; simp
  · rename_i e
    by_cases h : i < k
    · simp [h, show i < k + 1 by omega]
    · simp [h, show ¬ i < k + 1 by omega]
set_option maxHeartbeats 1000000 in
theorem filled_ok (w : World) (n : Nat) (t : Int) (h1 : 1 ≤ n) (h6 : n ≤ 6) : Calls Tryz.prog 32 #[.int .i64 n, .int .i64 t] w fun e w' => ∃ v, e = .returned v ∧ IntsT w' v (List.replicate n t) ∧ Below w.heap.size w w' := by
  obtain ⟨i0, hi, hz0, hz1, hz2⟩ := info_parts Tryz.info3n; go_enter Tryz.func32, Tryz.ntmps32
  go_wp2_with (refine wpList_make_full _ rfl _ _ 23 rfl w.heap.size 3 i0 (.int .i64 0) 1 Tryz.underlying23 hi hz0 hz1 .i64 .i64 _ _ n rfl rfl rfl rfl ?b2 ?b3 ?b4 ?_)
  case b2 => rw [hz2]; omega
  case b3 => unfold maxLen; omega
  case b4 => exact Nat.le_refl _
  intro w1 hown hgrow; have O1 := hid (made_ints hown); have B1 : Hid (Below w.heap.size w w1) := ⟨hgrow.os, hgrow.tape, hgrow.output, hgrow.size, fun i hi => hgrow.block i hi (by simp)⟩; clear hown hgrow; go_wp2; obtain ⟨g, hg⟩ : ∃ g, g = w.heap.size := ⟨_, rfl⟩; rw [← hg] at O1 ⊢; have HG := hid hg; clear hg
  go_loopw [6] (fun i wr => ∃ k : Nat, k ≤ n ∧ i = .int .i64 k ∧ Hid (wr.ownsRow g 3 1 (.slice (some ⟨g, 0, none⟩) n n) n ((List.replicate k t ++ List.replicate (n - k) (0 : Int)).map (Value.int .i64))) ∧ Hid (Below w.heap.size w wr)) (fun i _ => n - (intOf i).toNat)
  case atStart => exact ⟨0, Nat.zero_le _, rfl, (show World.ownsRow _ _ _ _ _ _ _ from by simpa using O1.out), B1.out⟩
  case round =>
    obtain ⟨k, hk, rfl, HO, HB⟩ := hrel
    by_cases hlt : k < n
    · obtain ⟨z, e3⟩ : ∃ z, wr.cell? ⟨g, k, none⟩ = some z := by
        rw [HO.out.cellAt k (by omega), List.getElem?_eq_getElem (by simp; omega)]; exact ⟨_, rfl⟩
      have e4 := HO.out.frozenAt k; have hi' : (k : Int) < (n : Int) := by omega
      go_wp2; refine ⟨⟨k + 1, by omega, by go_num, ?_, ?_⟩, by simp [intOf]; omega⟩
      · show World.ownsRow _ _ _ _ _ _ _; rw [← set_rep n t hlt]; exact (HO.out.stored k (.int .i64 t)).1
      · exact HB.out.setCell (Nat.le_of_eq HG.out.symm) _
    · obtain rfl : k = n := by omega
      have hi2 : ¬ (k : Int) < (k : Int) := by omega
      go_wp2; go_ret
      have hfin := HO.out; rw [Nat.sub_self, List.replicate_zero, List.append_nil] at hfin; exact ⟨_, rfl, intsT_made (base := g) (by simp) hfin, HB.out⟩
end Go.Proofs.YtdnebclemngdcaaGreatDoor
namespace Go.Proofs.YtdnebclemngdcaaGreatDoor
open Go.RowKit Go.Sort Go.Maps
set_option maxRecDepth 100000
set_option linter.unusedSectionVars false
variable [Inhabited ComV] [DecidableEq D3] [Inhabited D3] [Inhabited Dd] [Inhabited Dn] [Inhabited OpV]

structure OutInv (w : World) (l : List ComV) (v : Value) (rows : List (List Value)) (wr : World) : Prop where
  below : Below w.heap.size w wr
  row : wr.ownsRow w.heap.size 34 3 v l.length rows.flatten
  coms : F2 (ComRow w) rows l
theorem OutInv.start (w : World) : OutInv w [] (.slice none 0 0) [] w := ⟨Below.refl _ _, World.ownsRow_nil _ _ _ _, trivial⟩
theorem OutInv.moved {w wr w' : World} {l : List ComV} {v : Value} {rows : List (List Value)} (h : OutInv w l v rows wr) (hb : Below wr.heap.size wr w') : OutInv w l v rows w' := ⟨h.below.trans (hb.mono h.below.size), owns_below h.row fun b _ hc => hb.block b (lt_of_heap hc), h.coms⟩
theorem OutInv.step {w wr w' : World} {l : List ComV} {v v' : Value} {rows : List (List Value)} {r : List Value} {c : ComV} (h : OutInv w l v rows wr) (hc : ComRow w r c) (hg : wr.grownBy w' v.ownBlock) (hr : w'.ownsRow w.heap.size 34 3 v' (l.length + 1) (rows.flatten ++ r)) : OutInv w (l ++ [c]) v' (rows ++ [r]) w' where
  below := h.below.grown hg h.below.size (fun k hk => (h.row.lt k hk).1)
  row := by simpa using hr
  coms := f2_append h.coms hc
theorem comRow_len {w : World} {r : List Value} {c : ComV} (h : ComRow w r c) : r.length = 3 := by
  obtain ⟨_, _, rfl, _⟩ := h; rfl
theorem ComRow.mono' {w w' : World} {r : List Value} {c : ComV} {B : Nat} (h : ComRow w r c) (hb : Below B w w') (hB : w.heap.size ≤ B) : ComRow w' r c :=
  let ⟨wv, ov, h1, h2, h3⟩ := h; ⟨wv, ov, h1, h2.mono hb hB, h3.mono hb hB⟩
theorem coms_of_rows {w0 w : World} {base n : Nat} {v : Value} {rows : List (List Value)} {l : List ComV} (h : w.ownsRow base 34 3 v n rows.flatten) (hn : n = l.length) (hf : F2 (ComRow w0) rows l) (hb : Below w0.heap.size w0 w) : ComsAt w v l :=
  ⟨rows, rowAt_of_owns h (by rw [hn, f2_len hf]) (f2_rows (fun _ _ h => comRow_len h) hf), f2_mono (fun _ _ h => h.mono' hb (Nat.le_refl _)) hf⟩
theorem filter_take1 {l : List ComV} {k : Nat} (h : k < l.length) (p : ComV → Bool) : (l.take (k + 1)).filter p = (l.take k).filter p ++ (if p l[k]! = true then [l[k]!] else []) := by
  rw [List.take_succ_eq_append_getElem h, List.filter_append, getElem!_pos l k h]
  congr 1
  cases hp : p l[k] <;> simp [hp]
set_option maxHeartbeats 4000000 in
theorem rWithin (w : World) (q : Nat) (bv lv : Value) (hq : w.heap[q]? = some (.cells #[bv, lv] 73 (0, 0))) (L : List ComV) (hL : ComsAt w lv L) (hl : L.length ≤ 1000) (av : Value) (at_ : List Int) (ha : IntsAt w av at_) (h1 : 1 ≤ at_.length) (h6 : at_.length ≤ 6) (hlen : ∀ c ∈ L, c.when_.length = at_.length) :
    Calls Tryz.prog 26 #[.pointer (some ⟨q, 0, none⟩), av] w fun e w' => ∃ v, e = .returned v ∧ ComsAt w' v (L.filter fun c => leB c.when_ at_) ∧ Below w.heap.size w w' := by
  obtain ⟨i28, hi28, hy0, hy1, hy2⟩ := info_parts Tryz.info28o; obtain ⟨la, lc, rfl, _, _, hrow⟩ := hL.shape; obtain ⟨n, hn⟩ : ∃ n, n = L.length := ⟨_, rfl⟩; have c1 : w.cell? ⟨q, 1, none⟩ = some (.slice la n lc) := by rw [hn]; simp only [World.cell?, hq]; rfl
  have HN := hid hn; have HR := hid hrow; have HLEN := hid hlen; have HA := hid ha; have C1 := hid c1; obtain ⟨aa, ac, rfl⟩ := ha.slice; obtain ⟨na, hna⟩ : ∃ na, na = at_.length := ⟨_, rfl⟩; rw [← hna] at HA h1 h6 ⊢; have HNA := hid hna; rw [← hn] at hl; clear hL hrow hlen hn hq ha hna; go_enter Tryz.func26, Tryz.ntmps26; go_wp2_with fail; clear c1
  go_loopw [5, 6] (fun v i wr => ∃ (k : Nat) (rows : List (List Value)), k ≤ n ∧ i = .int .i64 k ∧ Hid (OutInv w ((L.take k).filter fun c => leB c.when_ at_) v rows wr)) (fun _ i _ => n - (intOf i).toNat)
  case atStart => exact ⟨0, [], Nat.zero_le _, rfl, OutInv.start w⟩
  case round =>
    obtain ⟨k, rs, hk, rfl, HI⟩ := hrel; have up : ∀ {a : Addr} {v : Value}, w.cell? a = some v → wr.cell? a = some v := fun {a v} h => by rw [HI.out.below.cell (lt_of_cell h)]; exact h
    have d1 := up C1.out
    by_cases hlt : k < n
    · have hkl : k < L.length := by rw [← HN.out]; exact hlt
      obtain ⟨b, off, rfl, hr'⟩ := HR.out.resolve_left (fun h => by rw [h] at hkl; simp at hkl); obtain ⟨wv, ov, hw, ho, q0, q1, q2⟩ := hr' k hkl; have hwl := HLEN.out L[k]! (by rw [getElem!_pos L k hkl]; exact List.getElem_mem _); have hft := filter_take1 hkl (fun c => leB c.when_ at_); obtain ⟨c, hce⟩ : ∃ c, c = L[k]! := ⟨_, rfl⟩; rw [← hce] at hw ho q1 hwl hft; have K := hid (fun W (hW : Below w.heap.size w W) => in_any W wv (.slice aa na ac) c.when_ at_ (hw.mono hW (Nat.le_refl _)) (HA.out.mono hW (Nat.le_refl _)) hwl (by rw [hwl, ← HNA.out]; exact h1) (by rw [hwl, ← HNA.out]; omega)); have HCR : Hid (ComRow w [wv, .int .i64 c.place, ov] c) := (show ComRow _ _ _ from ⟨_, _, rfl, hw, ho⟩); obtain ⟨a1, c1', hwe⟩ := hw.slice; subst hwe; obtain ⟨a2, c2, hoe, _⟩ := ho.shape; subst hoe; have r0 := up q0; have r1 := up q1; have r2 := up q2
      obtain ⟨n1, hn1⟩ : ∃ n1, n1 = c.when_.length := ⟨_, rfl⟩; obtain ⟨n2, hn2⟩ : ∃ n2, n2 = c.ops.length := ⟨_, rfl⟩; obtain ⟨pl, hpl⟩ : ∃ pl, pl = c.place := ⟨_, rfl⟩; rw [← hn1] at r0 K HCR; rw [← hn2] at r2 HCR; rw [← hpl] at r1 HCR; obtain ⟨bb, hbb⟩ : ∃ bb, bb = leB c.when_ at_ := ⟨_, rfl⟩; rw [← hbb] at K hft; have HFT := hid hft; have hi1 : (k : Int) < (n : Int) := by omega
      clear q0 q1 q2 up hce hwl hft hw ho hr' hn1 hn2 hpl hbb hkl; go_wp2_with fail; refine (K.out wr HI.out.below).mono ?_; rintro e wy ⟨rfl, qy, hqy⟩; have hby : Below wr.heap.size wr wy := by rw [hqy]; exact below_draws (Below.refl _ _) qy
      have I2 := hid (HI.out.moved hby); have s1 : wy.cell? ⟨q, 1, none⟩ = some (.slice (some ⟨b, off, none⟩) n lc) := by rw [hqy]; exact d1
      have y0 : wy.cell? ⟨b, off + k * 3, none⟩ = some (.slice a1 n1 c1') := by rw [hqy]; exact r0
      have y1 : wy.cell? ⟨b, off + k * 3 + 1, none⟩ = some (.int .i64 pl) := by rw [hqy]; exact r1
      have y2 : wy.cell? ⟨b, off + k * 3 + 2, none⟩ = some (.slice a2 n2 c2) := by rw [hqy]; exact r2
      clear hqy hby r0 r1 r2 K d1
      cases bb with
      | false =>
        go_wp2_with fail; refine ⟨⟨k + 1, rs, by omega, by go_num, ?_⟩, by simp [intOf]; omega⟩
        show OutInv _ _ _ _ _; rw [HFT.out]
        simpa using I2.out
      | true =>
        have hrow := I2.out.row; obtain ⟨m, hm⟩ : ∃ m, m = ((L.take k).filter fun c => leB c.when_ at_).length := ⟨_, rfl⟩; have hmk : m ≤ k := by rw [hm]; exact Nat.le_trans (List.length_filter_le _ _) (by rw [List.length_take]; omega)
        rw [← hm] at hrow; have HM := hid hm; obtain ⟨va, vc, hve⟩ := row_shape hrow; rw [hve] at hrow I2 ⊢; have hbs := I2.out.below.size; clear hm hve
        go_wp2_with (at_builtin; refine wpList_append_own _ rfl _ _ 22 rfl w.heap.size 34 i28 _ 3 56 Tryz.underlying22 hi28 hy0 hy1 hy2 rfl (by decide) _ _ _ rfl (hrow.alloc _) ⟨wy.heap.size, 0, none⟩ 1 1 [.slice a1 n1 c1', .int .i64 pl, .slice a2 n2 c2] rfl rfl (cells3_new _ _ _) ?ho1 ?ho2 ?ho3 ?ho4 ?_; (case ho1 => exact one3v _ _ _ _ _ _ _ _ _ rfl rfl); (case ho2 => unfold maxLen; omega); (case ho3 => omega); (case ho4 => simp; omega); intro v9 w9 hown9 hgr9 _; have G9 := hid hgr9; have O9 := hid hown9; clear hown9 hgr9)
        refine ⟨⟨k + 1, rs ++ [[.slice a1 n1 c1', .int .i64 pl, .slice a2 n2 c2]], by omega, by go_num, ?_⟩, by simp [intOf]; omega⟩
        · skip
          show OutInv _ _ _ _ _; rw [HFT.out, if_pos trivial]; exact (I2.out.moved (below_alloc _ _)).step HCR.out G9.out (by rw [← HM.out]; exact O9.out)
    · obtain rfl : k = n := by omega
      have hI := HI.out; rw [List.take_of_length_le (by rw [← HN.out]; exact Nat.le_refl _)] at hI; have H := hid (coms_of_rows hI.row rfl hI.coms hI.below); have HB := hid hI.below; clear hI HI up; go_wp2; go_ret; exact ⟨_, rfl, H.out, HB.out⟩
theorem vecE_chk {zs base : List Int} (h : chk zs ≠ 0) : vecE zs base = (chk zs).toNat := if_neg h
set_option maxHeartbeats 4000000 in
theorem rAtError (w : World) (q : Nat) (bv lv : Value) (hq : w.heap[q]? = some (.cells #[bv, lv] 73 (0, 0))) (bs : List Int) (hb : IntsAt w bv bs) (hb1 : 1 ≤ bs.length) (hb6 : bs.length ≤ 6) (key : ByteArray) (av : Value) (at_ : List Int) (ha : IntsAt w av at_) (hl : at_.length ≤ 20) :
    Calls Tryz.prog 24 #[.pointer (some ⟨q, 0, none⟩), .string key, av] w fun e w' => e = .returned (.int .i64 ((atE key at_ bs : Nat) : Int)) ∧ Below w.heap.size w w' := by
  have K57 := hid (rIsName w key); have K30 := hid (fun W (hW : Below w.heap.size w W) => vectorError W av at_ (ha.mono hW (Nat.le_refl _)) (by omega)); have K55 := hid (fun (h : at_.length = bs.length) W (hW : Below w.heap.size w W) => in_any W bv av bs at_ (hb.mono hW (Nat.le_refl _)) (ha.mono hW (Nat.le_refl _)) h.symm hb1 (by omega)); obtain ⟨aa, ac, rfl⟩ := ha.slice; obtain ⟨ba, bc, rfl⟩ := hb.slice; have c0 : w.cell? ⟨q, 0, none⟩ = some (.slice ba bs.length bc) := by simp only [World.cell?, hq]; rfl
  obtain ⟨na, hna⟩ : ∃ na, na = at_.length := ⟨_, rfl⟩; obtain ⟨nb, hnb⟩ : ∃ nb, nb = bs.length := ⟨_, rfl⟩; rw [← hnb] at c0; rw [← hna] at hl K30 ⊢; rw [← hna, ← hnb] at K55; have B0 := hid (Below.refl w.heap.size w)
  cases hn : nameB key with
  | false =>
    have HE : Hid (atE key at_ bs = 4) := by unfold atE; rw [hn, if_neg (by decide)]; exact rfl
    rw [hn] at K57; clear hq hb ha hna hnb hn; go_enter Tryz.func24, Tryz.ntmps24; go_wp2_with fail; refine K57.out.mono ?_; rintro e w' ⟨rfl, hw'⟩; rw [hw']; clear hw'; go_wp2_with fail; go_ret; exact ⟨by rw [HE.out]; rfl, B0.out⟩
  | true =>
    rw [hn] at K57
    by_cases hz : chk at_ = 0
    · rw [hz] at K30
      by_cases hlen : na = nb
      · have K55' := hid (K55.out hlen w B0.out); have hv : vecE at_ bs = 0 := by unfold vecE; rw [if_pos hz, if_pos (by rw [← hna, ← hnb]; exact hlen)]
        cases hle : leB bs at_ with
        | true =>
          have HE : Hid (atE key at_ bs = 0) := (show _ = _ from by unfold atE; simp [hn, hv, hle]); rw [hle] at K55'; have hne : ((na : Int) != (nb : Int)) = false := by rw [bne_eq_false_iff_eq]; omega
          clear hq hb ha hna hnb hn hz hle hlen K55 hv; go_enter Tryz.func24, Tryz.ntmps24
          go_wp2_with (first | (go_at_call 57; refine K57.out.mono ?_; rintro e w' ⟨rfl, hw'⟩; rw [hw']; clear hw') | (go_at_call 30; refine (K30.out w B0.out).mono ?_; rintro e w' ⟨rfl, hw'⟩; rw [hw']; clear hw') | (go_at_call 55; refine K55'.out.mono ?_; rintro e w' ⟨rfl, q', hw'⟩; rw [hw']; clear hw'))
          go_ret; exact ⟨by rw [HE.out]; rfl, below_draws B0.out q'⟩
        | false =>
          have HE : Hid (atE key at_ bs = 9) := (show _ = _ from by unfold atE; simp [hn, hv, hle]); rw [hle] at K55'; have hne : ((na : Int) != (nb : Int)) = false := by rw [bne_eq_false_iff_eq]; omega
          clear hq hb ha hna hnb hn hz hle hlen K55 hv; go_enter Tryz.func24, Tryz.ntmps24
          go_wp2_with (first | (go_at_call 57; refine K57.out.mono ?_; rintro e w' ⟨rfl, hw'⟩; rw [hw']; clear hw') | (go_at_call 30; refine (K30.out w B0.out).mono ?_; rintro e w' ⟨rfl, hw'⟩; rw [hw']; clear hw') | (go_at_call 55; refine K55'.out.mono ?_; rintro e w' ⟨rfl, q', hw'⟩; rw [hw']; clear hw'))
          go_ret; exact ⟨by rw [HE.out]; rfl, below_draws B0.out q'⟩
      · have HE : Hid (atE key at_ bs = 3) := by
          have h3 : vecE at_ bs = 3 := by unfold vecE; rw [if_pos hz, if_neg (by rw [← hna, ← hnb]; exact hlen)]
          unfold atE; rw [hn, if_pos rfl, h3, if_neg (by decide)]; exact rfl
        have hne : ((na : Int) != (nb : Int)) = true := by rw [bne_iff_ne]; omega
        clear hq hb ha hna hnb hn hz hlen K55; go_enter Tryz.func24, Tryz.ntmps24
        go_wp2_with (first | (go_at_call 57; refine K57.out.mono ?_; rintro e w' ⟨rfl, hw'⟩; rw [hw']; clear hw') | (go_at_call 30; refine (K30.out w B0.out).mono ?_; rintro e w' ⟨rfl, hw'⟩; rw [hw']; clear hw'))
        go_ret; exact ⟨by rw [HE.out]; rfl, B0.out⟩
    · have h0 : 0 ≤ chk at_ := by rcases chk_cases at_ with e | e | e <;> rw [e] <;> decide
      have HE : Hid (atE key at_ bs = (chk at_).toNat) := by
        have h3 : vecE at_ bs = (chk at_).toNat := vecE_chk hz; unfold atE; rw [hn, if_pos rfl, h3, if_neg (by omega)]; exact rfl
      obtain ⟨z, hzz⟩ : ∃ z, z = chk at_ := ⟨_, rfl⟩; rw [← hzz] at K30 HE h0 hz; have hb0 : (z == 0) = false := by simpa using hz
      clear hq hb ha hna hnb hn hz K55 hzz; go_enter Tryz.func24, Tryz.ntmps24
      go_wp2_with (first | (go_at_call 57; refine K57.out.mono ?_; rintro e w' ⟨rfl, hw'⟩; rw [hw']; clear hw') | (go_at_call 30; refine (K30.out w B0.out).mono ?_; rintro e w' ⟨rfl, hw'⟩; rw [hw']; clear hw'))
      go_ret; exact ⟨by rw [HE.out, Int.toNat_of_nonneg h0]; rfl, B0.out⟩
end Go.Proofs.YtdnebclemngdcaaGreatDoor
