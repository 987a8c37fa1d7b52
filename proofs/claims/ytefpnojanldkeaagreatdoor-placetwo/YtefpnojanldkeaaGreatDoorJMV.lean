/- The closed fact placed; PlaceWhole: two places side by side; what the law goes on; PlaceWhole: place 0 commits, and beats; PlaceWhole: its ops' literal; the rows; Slices of strings and of ints as they come in. -/
import Derived.Test.YtefpnojanldkeaaGreatDoorJLT
import Derived.Test.YtefpnojanldkeaaGreatDoorJWMath
import Derived.Test.YtefpnojanldkeaaGreatDoorJHF
import Derived.Laws.Tables
import Derived.Great.BuildSlice
import Derived.Test.YtefpnojanldkeaaGreatDoorJVOp
import Derived.Test.YtefpnojanldkeaaGreatDoorJSDel
import Derived.Test.YtefpnojanldkeaaGreatDoorJVVec
import Derived.Deep.Strs
import Derived.ProofKit
import Derived.LaidMore
import Derived.OpenShut
namespace Go.Proofs.YtefpnojanldkeaaGreatDoor
open Go.RowKit Go.Maps
set_option maxRecDepth 100000
set_option linter.unusedSectionVars false
variable [Inhabited ComV] [DecidableEq D3] [Inhabited D3] [Inhabited Dd] [Inhabited Dn] [Inhabited OpV]

theorem clock_cell (w : World) {pb : Nat} {cs : Array Value} {ck : Int} (h : w.heap[pb]? = some (.cells cs 68 (0, 0))) (hc : cs[2]? = some (.int .i64 ck)) : Calls Tryz.prog 21 #[.pointer (some ⟨pb, 0, none⟩)] w fun e w' => e = .returned (.int .i64 ck) ∧ w' = w := by
  have q : w.cell? ⟨pb, 2, none⟩ = some (.int .i64 ck) := (cell_of h).trans hc
  clear h hc
  go_enter Tryz.func21, Tryz.ntmps21
  go_wp2
  go_ret
  exact ⟨rfl, rfl⟩
theorem new_placed (w : World) : Calls Tryz.prog 7 #[.int .i64 0, .int .i64 2, .int .i64 1] w fun e w' => ∃ h : PlH, e = .returned (.tuple #[.pointer (some ⟨h.pb, 0, none⟩), .nilIface]) ∧ PlAt w' h (pv0 0 2 1) ∧ (∀ b, h.foot (pv0 0 2 1) b → w.heap.size ≤ b) ∧ Below w.heap.size w w' ∧ h.nn = 0 :=
  (new_any w 0 2 1 (by decide) (by decide) (by decide) (by decide)).mono fun _ _ ⟨h, e, h1, h2, h3, h4, _⟩ => ⟨h, e, h1, h2, h3, h4⟩
set_option maxHeartbeats 8000000 in
theorem placed_any (A : Nat → Addr) (B : Nat) (w : World) (hS : Sen A B w) :
    Calls Tryz.prog 6 #[] w fun e w' => e = .returned (.bool true) ∧ Below w.heap.size w w' := by
  have K7 := hid (fun W => new_placed W)
  have K9 := hid (fun W (hW : Sen A w.heap.size W) => commit_placed A w.heap.size W hW)
  have HS := hid hS.whole
  clear hS
  go_enter Tryz.func6, Tryz.ntmps6
  go_wp2_with fail
  refine (K7.out w).mono ?_
  rintro e w1 ⟨h, rfl, hP, hf, hb1, hnn⟩
  obtain ⟨w2, hw2⟩ : ∃ w2, w2 = (w1.alloc (.cells #[.int .i64 0, .int .i64 0] 3)).alloc (.cells #[.int .i64 0, .string ⟨#[107]⟩, .int .i64 2, .string ⟨#[]⟩, .int .i64 5, .bool false, .slice none 0 0] 34) := ⟨_, rfl⟩
  have hb2 : Below w1.heap.size w1 w2 := by rw [hw2]; exact below2 _ _ _
  have g1 : w2.heap[w1.heap.size]? = some (.cells #[.int .i64 0, .int .i64 0] 3 (0, 0)) := by rw [hw2]; exact heap_old (heap_new _ _) _
  have g2 : w2.heap[w1.heap.size + 1]? = some (.cells (opCells opKV (.slice none 0 0)).toArray 34 (0, 0)) := by rw [hw2]; exact heap_new2 _ _ _
  have B2 : Hid (Below w.heap.size w w2) := (show Below _ _ _ from hb1.trans (hb2.mono hb1.size))
  have K9' := hid (K9.out w2 (HS.out.below B2.out) h (hP.below hb2) hf hnn w1.heap.size (w1.heap.size + 1) g1 g2)
  clear g1 g2 hb2 hf hP hb1 hnn K7 K9
  go_wp2_with fail
  rw [← hw2]
  clear hw2
  refine K9'.out.mono ?_
  rintro e w3 ⟨a3, a4, c3, c4, b5, c5, rfl, m1, hi3, ⟨cs, hc3, hk3⟩, hb3⟩
  have K21 := hid (fun W (hW : W.heap[h.pb]? = some (.cells cs 68 (0, 0))) => clock_cell W hW hk3)
  have K18 := hid (fun W (v' : Value) (h1 : IntsAt W (.slice a3 2 c3) [1, 0]) (h2 : IntsAt W v' [1, 0]) => sameInts_same W _ _ [1, 0] h1 h2 (by decide))
  have B3 : Hid (Below w.heap.size w w3) := (show Below _ _ _ from B2.out.trans hb3)
  obtain ⟨w4, hw4⟩ : ∃ w4, w4 = w3.alloc (.cells #[.slice a3 2 c3, .int .i64 0, .slice a4 1 c4] 36) := ⟨_, rfl⟩
  have hb4 : Below w3.heap.size w3 w4 := by rw [hw4]; exact below_alloc _ _
  have n1 : w4.cell? ⟨b5, 1, none⟩ = some (.int .i64 1) := (hb4.cell (p := ⟨b5, 1, none⟩) (lt_of_cell m1)).trans m1
  have n2 : w4.cell? ⟨w3.heap.size, 0, none⟩ = some (.slice a3 2 c3) := by rw [hw4]; exact (cell_of (heap_new _ _)).trans rfl
  have B4 : Hid (Below w.heap.size w w4) := (show Below _ _ _ from B3.out.trans (hb4.mono B3.out.size))
  have HI4 := hid (hi3.mono hb4 (Nat.le_refl _))
  have HC4 := hid ((hb4.block _ (lt_of_heap hc3)).trans hc3)
  clear hb4 m1 hi3 hc3 hk3 hb3
  go_upto_region 5 with (fail)
  rw [← hw4]
  clear hw4
  go_wp2_with (first | (go_at_call 18; refine (K18.out _ _ ?h1 ?h2).mono ?_; (case h1 => first | exact HI4.out.mono (below_alloc w4 _).drew (Nat.le_refl _) | exact HI4.out.mono (below_alloc w4 _) (Nat.le_refl _)); (case h2 => exact ints_two (heap_new _ _)); rintro e w5 ⟨rfl, hb5⟩; have hb5' : Below w4.heap.size w4 w5 := (by first | exact (below_draws (below_alloc w4 _) 1).trans (hb5.mono (by show w4.heap.size ≤ (w4.alloc _).heap.size; simp)) | exact (below_alloc w4 _).trans (hb5.mono (by show w4.heap.size ≤ (w4.alloc _).heap.size; simp))); have HB5 := hid hb5'; clear hb5 hb5') | (go_at_call 21; refine (K21.out _ ((HB5.out.block _ (lt_of_heap HC4.out)).trans HC4.out)).mono ?_; rintro e w6 ⟨rfl, hw6⟩; rw [hw6]; clear hw6))
  have B5 : Hid (Below w.heap.size w w5) := (show Below _ _ _ from B4.out.trans (HB5.out.mono B4.out.size))
  go_ret
  exact ⟨rfl, B5.out⟩
end Go.Proofs.YtefpnojanldkeaaGreatDoor
namespace Go.Proofs.YtefpnojanldkeaaGreatDoor
open Go.RowKit Go.Maps
set_option maxRecDepth 10000
set_option linter.unusedSectionVars false
variable [Inhabited ComV] [DecidableEq D3] [Inhabited D3] [Inhabited Dd] [Inhabited Dn] [Inhabited OpV]

theorem PlAt.other {W W' : World} {ha ha' hb : PlH} {va va' vb : PlV} (b : PlAt W hb vb) (m : PlMoves W W' ha va ha' va') (dis : ∀ q, ha.foot va q → ¬ hb.foot vb q) : PlAt W' hb vb ∧ ∀ q, ha'.foot va' q → ¬ hb.foot vb q :=
  ⟨b.keep (fun q hq => m.block q (b.lt hq) fun e => dis q e hq) m.keeps, fun q hq e => by
    rcases m.foot q hq with h | h
    · exact dis q h e
    · have := b.lt e; omega⟩
theorem low_moves {W W' : World} {h h' : PlH} {v v' : PlV} {B : Nat} (l : ∀ q, h.foot v q → B ≤ q) (m : PlMoves W W' h v h' v') (hB : B ≤ W.heap.size) : ∀ q, h'.foot v' q → B ≤ q := fun q hq => by
  rcases m.foot q hq with e | e
  · exact l q e
  · omega
theorem below_moves {w W W' : World} {h h' : PlH} {v v' : PlV} (b : Below w.heap.size w W) (l : ∀ q, h.foot v q → w.heap.size ≤ q) (m : PlMoves W W' h v h' v') : Below w.heap.size w W' :=
  ⟨m.os.trans b.os, m.tape.trans b.tape, m.output.trans b.output, Nat.le_trans b.size m.size, fun q hq => (m.block q (Nat.lt_of_lt_of_le hq b.size) fun e => by have := l q e; omega).trans (b.block q hq)⟩
theorem off_moves {W W' : World} {h h' : PlH} {v v' : PlV} {B e z n : Nat} {lv : Value} {xs : List Value} (row : W.ownsRow B e z lv n xs) (off : ∀ q, lv.ownBlock = some q → ¬ h.foot v q) (m : PlMoves W W' h v h' v') : W'.ownsRow B e z lv n xs ∧ ∀ q, lv.ownBlock = some q → ¬ h'.foot v' q :=
  ⟨own_keep row fun q hq => m.block q (row.lt q hq).2 (off q hq), fun q hq e => by
    rcases m.foot q e with h | h
    · exact off q hq h
    · have := (row.lt q hq).2; omega⟩
def WMsg (k : Nat) (ks : List ByteArray) (W : World) (r : Raw) : Prop := ∃ s, s < k ∧ ∃ m, RawOwn 0 W r m ∧ ((qS (cW ks) k s = 1 ∧ m = cmM 0 1 (cW ks) k s) ∨ m = bmM 0 1 (cW ks) k s)
theorem WMsg.kept {k : Nat} {ks : List ByteArray} {W W' : World} {r : Raw} (h : WMsg k ks W r) (hk : Keeps W W') : WMsg k ks W' r := by
  obtain ⟨s, hs, m, hm, h⟩ := h
  exact ⟨s, hs, m, hm.kept hk, h⟩
theorem f2_left {α β : Type} {R : α → β → Prop} : ∀ {l : List α} {m : List β}, F2 R l m → ∀ x ∈ l, ∃ y ∈ m, R x y
  | [], [], _, x, hx => by simp at hx
  | a :: l, b :: m, ⟨h1, h2⟩, x, hx => by
    rcases List.mem_cons.1 hx with rfl | hx
    · exact ⟨b, by simp, h1⟩
    · obtain ⟨y, hy, hr⟩ := f2_left h2 x hx
      exact ⟨y, by simp [hy], hr⟩
structure WcI (w0 : World) (k : Nat) (ks : List ByteArray) (ha : PlH) (va : PlV) (hb : PlH) (lv : Value) (rs : List Raw) (W : World) : Prop where
  bel : Below w0.heap.size w0 W
  a : PlAt W ha va
  b : PlAt W hb (pv0 1 2 k)
  la : ∀ q, ha.foot va q → w0.heap.size ≤ q
  lb : ∀ q, hb.foot (pv0 1 2 k) q → w0.heap.size ≤ q
  dis : ∀ q, ha.foot va q → ¬ hb.foot (pv0 1 2 k) q
  row : W.ownsRow w0.heap.size 44 9 lv rs.length (raws rs)
  offa : ∀ q, lv.ownBlock = some q → ¬ ha.foot va q
  offb : ∀ q, lv.ownBlock = some q → ¬ hb.foot (pv0 1 2 k) q
  own : ∀ r ∈ rs, WMsg k ks W r
theorem WcI.below {w0 : World} {k : Nat} {ks : List ByteArray} {ha : PlH} {va : PlV} {hb : PlH} {lv : Value} {rs : List Raw} {W W' : World} (h : WcI w0 k ks ha va hb lv rs W) (hbl : Below W.heap.size W W') : WcI w0 k ks ha va hb lv rs W' :=
  ⟨h.bel.trans (hbl.mono h.bel.size), h.a.below hbl, h.b.below hbl, h.la, h.lb, h.dis, own_keep h.row fun q hq => hbl.block q (h.row.lt q hq).2, h.offa, h.offb, fun r hr => (h.own r hr).kept (Keeps.bel hbl)⟩
structure WhI (w0 : World) (k : Nat) (ks : List ByteArray) (i : Nat) (h : PlH) (v : PlV) (lv : Value) (rs : List Raw) (W : World) : Prop where
  bel : Below w0.heap.size w0 W
  at_ : PlAt W h v
  low : ∀ q, h.foot v q → w0.heap.size ≤ q
  rc : RcI 2 1 k (fun _ => cW ks) (· = 0) i h v
  row : W.ownsRow w0.heap.size 44 9 lv rs.length (raws rs)
  off : ∀ q, lv.ownBlock = some q → ¬ h.foot v q
  own : ∀ r ∈ rs, WMsg k ks W r
theorem WhI.below {w0 : World} {k : Nat} {ks : List ByteArray} {i : Nat} {h : PlH} {v : PlV} {lv : Value} {rs : List Raw} {W W' : World} (I : WhI w0 k ks i h v lv rs W) (hbl : Below W.heap.size W W') : WhI w0 k ks i h v lv rs W' :=
  ⟨I.bel.trans (hbl.mono I.bel.size), I.at_.below hbl, I.low, I.rc, own_keep I.row fun q hq => hbl.block q (I.row.lt q hq).2, I.off, fun r hr => (I.own r hr).kept (Keeps.bel hbl)⟩
theorem WhI.moves {w0 : World} {k : Nat} {ks : List ByteArray} {i : Nat} {h h' : PlH} {v v' : PlV} {lv : Value} {rs : List Raw} {W W' : World} (I : WhI w0 k ks i h v lv rs W) (hP : PlAt W' h' v') (hM : PlMoves W W' h v h' v') (hR : RcI 2 1 k (fun _ => cW ks) (· = 0) (i + 1) h' v') : WhI w0 k ks (i + 1) h' v' lv rs W' :=
  ⟨below_moves I.bel I.low hM, hP, low_moves I.low hM I.bel.size, hR, (off_moves I.row I.off hM).1, (off_moves I.row I.off hM).2, fun r hr => (I.own r hr).kept hM.keeps⟩
theorem WhI.step {w0 : World} {k : Nat} {ks : List ByteArray} {i : Nat} {h : PlH} {v : PlV} {lv : Value} {rs : List Raw} {W : World} (I : WhI w0 k ks i h v lv rs W) : WhI w0 k ks (i + 1) h v lv rs W :=
  ⟨I.bel, I.at_, I.low, I.rc.step (Nat.le_refl _) fun _ _ => Nat.le_succ _, I.row, I.off, I.own⟩
theorem WcI.start {w0 : World} {k : Nat} {ks : List ByteArray} {ha : PlH} {va : PlV} {hb : PlH} {lv : Value} {rs : List Raw} {W : World} (h : WcI w0 k ks ha va hb lv rs W) (hnn : hb.nn = 0) (hx : ∀ j s, (pv0 1 2 k).line j s → (hb.X j s).n = 0) : WhI w0 k ks 0 hb (pv0 1 2 k) lv rs W :=
  ⟨h.bel, h.b, h.lb, rcI0 _ _ hb hnn hx, h.row, h.offb, h.own⟩
theorem WhI.hear (A : Nat → Addr) {w0 W : World} {k : Nat} {ks : List ByteArray} {i : Nat} {h : PlH} {v : PlV} {lv : Value} {rs : List Raw} (I : WhI w0 k ks i h v lv rs W) (hE : E4 A W) (h12 : 12 ≤ w0.heap.size) (hi : i < 70) (hks : ks ≠ []) (hk12 : ks.length ≤ 12) (hn : ∀ key ∈ ks, nameB key = true) {r : Raw} (hr : r ∈ rs) :
    Calls Tryz.prog 11 #[.pointer (some ⟨h.pb, 0, none⟩), .agg r.cells.toArray] W fun e W' => ∃ (h' : PlH) (v' : PlV) (a6 : Option Addr) (c6 : Nat), e = .returned (.tuple #[.slice a6 1 c6, .nilIface]) ∧ h'.pb = h.pb ∧ WhI w0 k ks (i + 1) h' v' lv rs W' := by
  obtain ⟨s, hs, m, hm, hc⟩ := I.own r hr
  have hsz := I.bel.size
  refine (hear_step A W hE (by omega) h v I.at_ (fun b hb => by have := I.low b hb; omega) I.rc hi (cW_src hks hk12 hn) 0 s ⟨by rw [I.rc.vn]; decide, by rw [I.rc.vid]; decide, by rw [I.rc.vk]; exact hs⟩ rfl r m hm hc).mono ?_
  rintro e W' ⟨h', v', a6, c6, he, hP, hM, hpb, hR, _, _⟩
  exact ⟨h', v', a6, c6, he, hpb, I.moves hP hM hR⟩
theorem WhI.read (A : Nat → Addr) {w0 W : World} {k : Nat} {ks : List ByteArray} {i : Nat} {h : PlH} {v : PlV} {lv : Value} {rs : List Raw} (I : WhI w0 k ks i h v lv rs W) (hE : E4 A W) (h12 : 12 ≤ w0.heap.size) (hi : i ≤ 70) (hks : ks ≠ []) (hk12 : ks.length ≤ 12) (hn : ∀ key ∈ ks, nameB key = true) {key : ByteArray} (hkey : key ∈ ks) (va : Option Addr) (vn vc : Nat) (hv : IntsAt W (.slice va vn vc) (snapV v)) :
    Calls Tryz.prog 13 #[.pointer (some ⟨h.pb, 0, none⟩), .string key, .slice va vn vc] W fun e W' => ∃ (t : ByteArray) (x : Int) (sa : Option Addr) (sn sc : Nat), e = .returned (.tuple #[.agg #[.int .i64 (if snapJ v 0 = 1 then 2 else 0), .string t, .int .i64 x, .slice sa sn sc], .nilIface]) ∧ Below W.heap.size W W' := by
  have k1 : 1 ≤ k := by have := I.at_.k1; have := I.rc.vk; omega
  have hsz := I.bel.size
  obtain ⟨D, hK, hlen, hSt, hst, hD, hmem⟩ := I.rc.kept (cW_src hks hk12 hn) (by decide) (by decide)
  have h01 : snapJ v 0 = 0 ∨ snapJ v 0 = 1 := (I.rc.snap k1 0 (by decide) (by decide)).imp id (·.1)
  have hp := snap_pair I.rc
  have h2 : two (snapV v) (snapV v) = 0 := by rw [hp]; rcases h01 with e | e <;> rw [e] <;> decide
  have hle : leB (snapV v) (snapV v) = true := by rw [hp]; rcases h01 with e | e <;> rw [e] <;> decide
  have hb : leB v.st.base (snapV v) = true := by rw [hst, hp]; rcases h01 with e | e <;> rw [e] <;> rfl
  refine (read_any A W hE (by omega) h v I.at_ key (hn key hkey) va vn vc (snapV v) hv h2 hle (by rw [I.rc.vn]; exact hSt) hb (by rw [hst]; exact rowOf_few hK (by rw [List.length_map]; omega) key)).mono ?_
  rintro e W' ⟨vv, ds, he, hd, ⟨sv, hvv, sa, sc, hsv, _⟩, hbl⟩
  have hkd := whole_kind k1 I.rc hks hk12 hn hkey hd
  rw [hkd, hsv] at hvv
  exact ⟨_, _, sa, _, sc, by rw [he, hvv], hbl⟩
end Go.Proofs.YtefpnojanldkeaaGreatDoor
namespace Go.Proofs.YtefpnojanldkeaaGreatDoor
open Go.RowKit Go.Maps
set_option maxRecDepth 10000
set_option linter.unusedSectionVars false
variable [Inhabited ComV] [DecidableEq D3] [Inhabited D3] [Inhabited Dd] [Inhabited Dn] [Inhabited OpV]

theorem whole_commit (A : Nat → Addr) {w0 W : World} {k : Nat} {ks : List ByteArray} {ha hb : PlH} (hS : Sen A w0.heap.size W) (bel : Below w0.heap.size w0 W) (a : PlAt W ha (pv0 0 2 k)) (b : PlAt W hb (pv0 1 2 k)) (la : ∀ q, ha.foot (pv0 0 2 k) q → w0.heap.size ≤ q) (lb : ∀ q, hb.foot (pv0 1 2 k) q → w0.heap.size ≤ q) (dis : ∀ q, ha.foot (pv0 0 2 k) q → ¬ hb.foot (pv0 1 2 k) q) (hnn : ha.nn = 0) (hx : ∀ j s, (pv0 0 2 k).line j s → (ha.X j s).n = 0) (hks : ks ≠ []) (h12 : ks.length ≤ 12) (hn : ∀ key ∈ ks, nameB key = true) (a1 a2 : Option Addr) (n1 c1 n2 c2 : Nat) (hI : IntsAt W (.slice a1 n1 c1) [0, 0]) (hO : OpsAt W (.slice a2 n2 c2) (cOps ks)) :
    Calls Tryz.prog 9 #[.pointer (some ⟨ha.pb, 0, none⟩), .slice a1 n1 c1, .slice a2 n2 c2] W fun e W' => ∃ (ha' : PlH) (a3 a4 : Option Addr) (c3 c4 : Nat) (rv : Value) (rs : List Raw), e = .returned (.tuple #[.agg #[.slice a3 n1 c3, .int .i64 0, .slice a4 n2 c4], rv, .nilIface]) ∧ ha'.pb = ha.pb ∧ rs.length ≤ 1000 ∧ WcI w0 k ks ha' (pv2 (pv0 0 2 k) (cW ks)) hb rv rs W' := by
  have k1 : 1 ≤ k := a.k1
  have k6 : k ≤ 6 := a.k6
  have hR := rcI0 (fun _ => cW ks) (fun _ => False) ha hnn hx
  obtain ⟨hT, _, hok, _⟩ := hR.tx a (by decide) (fun _ h => h.elim) hks h12 hn
  rw [snapV0 0 2 k k1] at hT
  refine (commit_any A w0.heap.size W hS hS.e4 ha (pv0 0 2 k) a la hok a1 a2 n1 c1 n2 c2 [0, 0] (cOps ks) hI hO hT).mono ?_
  rintro e W' ⟨⟨h', a3, a4, c3, c4, rv, rs, he, hP, hM, hpb, _, hfr, hrow, hF, _⟩⟩
  have hM' : PlMoves W W' ha (pv0 0 2 k) h' (pv2 (pv0 0 2 k) (cW ks)) := hM
  obtain ⟨b', dis'⟩ := b.other hM' dis
  have hsz : w0.heap.size ≤ W.heap.size := bel.size
  have hF' : F2 (RawOwn 0 W') rs (allMs (sendT (comV1 (pv0 0 2 k) (cW ks)) (cW ks)) (pv0 0 2 k).id (pv0 0 2 k).k (pv0 0 2 k).n) := hF
  have hlen : rs.length ≤ 1000 := by
    rw [f2_len hF']
    have := allMs_len (tell := sendT (comV1 (pv0 0 2 k) (cW ks)) (cW ks)) (L := 1) (id := (pv0 0 2 k).id) (k := (pv0 0 2 k).k) (fun j s => by unfold sendT; split <;> simp) (pv0 0 2 k).n
    have e2 : (pv0 0 2 k).n = 2 := rfl
    have ek : (pv0 0 2 k).k = k := rfl
    rw [e2, ek] at this
    rw [e2, ek]
    omega
  refine ⟨h', a3, a4, c3, c4, rv, rs, he, hpb, hlen, below_moves bel la hM', hP, b', low_moves la hM' hsz, lb, dis', owns_base hrow hsz, hfr, fun q hq e => ?_, fun r hr => ?_⟩
  · have h1 := (hrow.lt q hq).1
    have h2 := b.lt e
    omega
  · obtain ⟨m, hm, hown⟩ := f2_left hF' r hr
    obtain ⟨j, s, q, hqs, rfl⟩ := (sent_mem (fun _ _ _ => rfl) (timeC_c (by decide))).1 hm
    have hj : j = 1 := by have h1 : j < 2 := q.1; have h2 : j ≠ 0 := q.2.1; omega
    subst hj
    exact ⟨s, q.2.2, _, hown, .inl ⟨hqs, rfl⟩⟩
theorem whole_beat {w0 W : World} {k : Nat} {ks : List ByteArray} {ha hb : PlH} {lv : Value} {rs : List Raw} (I : WcI w0 k ks ha (pv2 (pv0 0 2 k) (cW ks)) hb lv rs W) :
    Calls Tryz.prog 10 #[.pointer (some ⟨ha.pb, 0, none⟩)] W fun e W' => ∃ (ha' : PlH) (va' : PlV) (rv : Value) (r2 : List Raw), e = .returned rv ∧ WcI w0 k ks ha' va' hb lv rs W' ∧ W'.ownsRow W.heap.size 44 9 rv r2.length (raws r2) ∧ r2.length ≤ 1000 ∧ ∀ r ∈ r2, WMsg k ks W' r := by
  have k6 : k ≤ 6 := I.b.k6
  have hok := pvOk2 (c := cW ks) (pvOk0 0 2 k) (fun _ _ _ => ⟨rfl, rfl, rfl⟩) rfl (timeC_c (by decide))
  refine (beat_any W ha _ I.a hok).mono ?_
  rintro e W' ⟨h', rv, r2, he, hG, hrow, hF⟩
  obtain ⟨b', dis'⟩ := I.b.other hG.mov I.dis
  have hlen : r2.length ≤ 1000 := by
    rw [f2_len hF]
    have := allMs_len (tell := beatT (pv2 (pv0 0 2 k) (cW ks))) (L := 1) (id := (pv2 (pv0 0 2 k) (cW ks)).id) (k := (pv2 (pv0 0 2 k) (cW ks)).k) (fun j s => by simp [beatT]) (pv2 (pv0 0 2 k) (cW ks)).n
    have e2 : (pv2 (pv0 0 2 k) (cW ks)).n = 2 := rfl
    have ek : (pv2 (pv0 0 2 k) (cW ks)).k = k := rfl
    rw [e2, ek] at this
    rw [e2, ek]
    omega
  have hr := off_moves I.row I.offa hG.mov
  refine ⟨h', _, rv, r2, he, ⟨below_moves I.bel I.la hG.mov, hG.here, b', low_moves I.la hG.mov I.bel.size, I.lb, dis', hr.1, hr.2, I.offb, fun r hr => (I.own r hr).kept hG.mov.keeps⟩, hrow, hlen, fun r hr => ?_⟩
  obtain ⟨m, hm, hown⟩ := f2_left hF r hr
  obtain ⟨j, s, q, rfl⟩ := (beat_mem (fun _ _ _ => rfl) rfl).1 hm
  have hj : j = 1 := by have h1 : j < 2 := q.1; have h2 : j ≠ 0 := q.2.1; omega
  subst hj
  exact ⟨s, q.2.2, _, hown, .inr rfl⟩
theorem WcI.app {w0 W W' : World} {k : Nat} {ks : List ByteArray} {ha hb : PlH} {va : PlV} {lv v3 : Value} {rs r2 : List Raw} (I : WcI w0 k ks ha va hb lv rs W) (h2 : ∀ r ∈ r2, WMsg k ks W r) (hg : W.grownBy W' lv.ownBlock) (hown : W'.ownsRow w0.heap.size 44 9 v3 (rs ++ r2).length (raws (rs ++ r2))) (hv : v3.ownBlock = lv.ownBlock ∨ v3.ownBlock = some W.heap.size) : WcI w0 k ks ha va hb v3 (rs ++ r2) W' := by
  have hk := keeps_grown hg fun q hq => own_type I.row hq
  have hsz := I.bel.size
  refine ⟨⟨hg.os.trans I.bel.os, hg.tape.trans I.bel.tape, hg.output.trans I.bel.output, Nat.le_trans I.bel.size hg.size, fun q hq => (hg.block q (by omega) fun e => by have := (I.row.lt q e.symm).1; omega).trans (I.bel.block q hq)⟩, I.a.keep (fun q hq => hg.block q (I.a.lt hq) fun e => I.offa q e.symm hq) hk, I.b.keep (fun q hq => hg.block q (I.b.lt hq) fun e => I.offb q e.symm hq) hk, I.la, I.lb, I.dis, hown, fun q hq e => ?_, fun q hq e => ?_, fun r hr => ?_⟩
  · rcases hv with h | h
    · exact I.offa q (h ▸ hq) e
    · have := I.a.lt e
      rw [h] at hq
      have := Option.some.inj hq
      omega
  · rcases hv with h | h
    · exact I.offb q (h ▸ hq) e
    · have := I.b.lt e
      rw [h] at hq
      have := Option.some.inj hq
      omega
  · rcases List.mem_append.1 hr with hr | hr
    · exact (I.own r hr).kept hk
    · exact (h2 r hr).kept hk

def opC (o : OpV) : List Value := opCells o (.slice none 0 0)
def litC (key : ByteArray) : Array Value := #[.int .i64 0, .string key, .int .i64 2, .string ⟨#[]⟩, .int .i64 1, .bool false, .slice none 0 0]
theorem litC_op (key : ByteArray) : (litC key).toList = opC (cOp key) := rfl
theorem wpList_build_k (w : World) {ops : Array Oper} {rest : List Oper} {o : Oper} {a : Act} {Q : Exit → Act → World → Prop} (hg : o.guard = none) (t : TypeId) (parts : Array (Nat × Operand)) (hop : o.op = .build t parts) (cells : Array Value) (vs : List (Nat × Value)) (hv : (parts.map fun (i, x) => (i, a.eval x)).toList = vs) (hc : Tryz.prog.built t vs = some cells)
    (hK : wpList Tryz.prog ops Q rest (a.put o.dst (.agg cells)) w) : wpList Tryz.prog ops Q (o :: rest) a w := by
  subst hv
  refine wpList_plain hg fun K' hK' => ?_
  refine wp_build t parts hop (by rw [hc]; rfl) ?_
  rw [hc]
  exact hK' _ _ hK
theorem builtC (key : ByteArray) : Tryz.prog.built 34 [(1, .string key), (2, .int .i64 2), (4, .int .i64 1)] = some (litC key) := by kernel_rfl
theorem builtCS (key : ByteArray) (W : World) : (Instr.buildSlice 30 1 #[(0, .agg (litC key))]).run Tryz.prog W = .ok (.slice (some ⟨W.heap.size, 0, none⟩) 1 1) (W.alloc (.cells (litC key) 34)) := by kernel_rfl
theorem put_eval (a : Act) (k : Nat) (v : Value) (h : k < a.tmps.size) : (a.put (some k) v).eval (.tmp k) = v := by simp [Act.put, Act.eval, h]
theorem put_other (a : Act) (k j : Nat) (v : Value) (h : j ≠ k) : (a.put (some k) v).eval (.tmp j) = a.eval (.tmp j) := by simp [Act.put, Act.eval, Ne.symm h]
theorem wpList_litC (w : World) {ops : Array Oper} {rest : List Oper} {o1 o2 : Oper} {a : Act} {Q : Exit → Act → World → Prop} (s k1 k2 : Nat) (hs : k1 < a.tmps.size) (g1 : o1.guard = none) (g2 : o2.guard = none) (d1 : o1.dst = some k1) (d2 : o2.dst = some k2)
    (h1 : o1.op = .build 34 #[(1, .tmp s), (2, .const (.int .i64 2)), (4, .const (.int .i64 1))]) (h2 : o2.op = .buildSlice 30 1 #[(0, .tmp k1)]) (key : ByteArray) (hv : a.eval (.tmp s) = .string key)
    (hK : wpList Tryz.prog ops Q rest ((a.put (some k1) (.agg (litC key))).put (some k2) (.slice (some ⟨w.heap.size, 0, none⟩) 1 1)) (w.alloc (.cells (litC key) 34))) :
    wpList Tryz.prog ops Q (o1 :: o2 :: rest) a w := by
  refine wpList_build_k w g1 34 _ h1 _ [(1, .string key), (2, .int .i64 2), (4, .int .i64 1)] ?_ (builtC key) ?_
  · simp only [List.map_toArray, List.map_cons, List.map_nil]
    rw [hv]
    rfl
  rw [d1]
  have e1 := put_eval a k1 (.agg (litC key)) hs
  refine wpList_plain g2 fun K' hK' => ?_
  unfold Oper.wp
  simp only [execOp, h2, List.map_toArray, List.map_cons, List.map_nil, e1, Sem.run_bind, builtCS, Result.andThen_ok]
  refine hK' _ _ ?_
  rw [d2]
  exact hK
theorem src_litC {W : World} {m : Nat} {key : ByteArray} (h : W.heap[m]? = some (.cells (litC key) 34 (0, 0))) : SrcAt W (.slice (some ⟨m, 0, none⟩) 1 1) 1 7 (opC (cOp key)) := by
  refine .inr ⟨⟨m, 0, none⟩, 1, rfl, rfl, fun j u hu => ?_⟩
  rw [Go.WideShapes.add_plain, Nat.zero_add, cell_of h, ← hu, ← litC_op]
  simp
theorem one_litC (key : ByteArray) : ∀ u ∈ opC (cOp key), u.oneCell' = true := fun u hu => by
  simp only [opC, opCells, List.mem_cons, List.not_mem_nil, or_false] at hu
  rcases hu with rfl | rfl | rfl | rfl | rfl | rfl | rfl <;> rfl
theorem f2_ops (w : World) : ∀ l : List ByteArray, F2 (OpOwn 0 w) ((cOps l).map opC) (cOps l)
  | [] => trivial
  | _ :: l => ⟨⟨.slice none 0 0, rfl, World.ownsRow_nil _ _ _ _⟩, f2_ops w l⟩
theorem ops_own {w : World} {base m : Nat} {v : Value} {l : List ByteArray} (hm : m = l.length) (h : w.ownsRow base 34 7 v m ((cOps l).map opC).flatten) : OpsAt w v (cOps l) := by
  have hl : (cOps l).length = m := by simp [cOps, hm]
  have : ComOwn 0 w (.slice none 0 0) v ⟨[], 0, cOps l⟩ := ⟨World.ownsRow_nil _ _ _ _, _, by show w.ownsRow 0 34 7 v (cOps l).length _; rw [hl]; exact owns_base h (Nat.zero_le _), f2_ops w l⟩
  exact this.opsAt
theorem new_w0 (W : World) (k : Nat) (k1 : 1 ≤ k) (k6 : k ≤ 6) : Calls Tryz.prog 7 #[.int .i64 0, .int .i64 2, .int .i64 k] W fun e w' => ∃ h : PlH, e = .returned (.tuple #[.pointer (some ⟨h.pb, 0, none⟩), .nilIface]) ∧ PlAt w' h (pv0 0 2 k) ∧ (∀ b, h.foot (pv0 0 2 k) b → W.heap.size ≤ b) ∧ Below W.heap.size W w' ∧ h.nn = 0 ∧ ∀ j s, (pv0 0 2 k).line j s → (h.X j s).n = 0 :=
  new_any W 0 2 k (by decide) (by decide) k1 k6
theorem new_w1 (W : World) (k : Nat) (k1 : 1 ≤ k) (k6 : k ≤ 6) : Calls Tryz.prog 7 #[.int .i64 1, .int .i64 2, .int .i64 k] W fun e w' => ∃ h : PlH, e = .returned (.tuple #[.pointer (some ⟨h.pb, 0, none⟩), .nilIface]) ∧ PlAt w' h (pv0 1 2 k) ∧ (∀ b, h.foot (pv0 1 2 k) b → W.heap.size ≤ b) ∧ Below W.heap.size W w' ∧ h.nn = 0 ∧ ∀ j s, (pv0 1 2 k).line j s → (h.X j s).n = 0 :=
  new_any W 1 2 k (by decide) (by decide) k1 k6
structure OpsI (w3 : World) (ks : List ByteArray) (m : Nat) (ov : Value) (W : World) : Prop where
  bel : Below w3.heap.size w3 W
  row : W.ownsRow w3.heap.size 34 7 ov m ((cOps (ks.take m)).map opC).flatten
  nm : ∀ key ∈ ks.take m, nameB key = true
theorem OpsI.zero (w3 : World) (ks : List ByteArray) : OpsI w3 ks 0 (.slice none 0 0) w3 := ⟨Below.refl _ _, World.ownsRow_nil _ _ _ _, fun key h => by simp at h⟩
theorem OpsI.next {w3 W W3 : World} {ks : List ByteArray} {m : Nat} {ov v3 : Value} (I : OpsI w3 ks m ov W) {ky : ByteArray} (hk : ks[m]? = some ky) (hn : nameB ky = true) {o : Obj} (hg : (W.alloc o).grownBy W3 ov.ownBlock) (hrow : W3.ownsRow w3.heap.size 34 7 v3 (m + 1) (((cOps (ks.take m)).map opC).flatten ++ opC (cOp ky))) : OpsI w3 ks (m + 1) v3 W3 := by
  have e : ks.take (m + 1) = ks.take m ++ [ky] := by rw [List.take_add_one, hk]; rfl
  have hsz := I.bel.size
  refine ⟨((I.bel.alloc hsz o).grown hg (by simp; omega) fun q hq => (I.row.lt q hq).1), ?_, fun key hkey => ?_⟩
  · rw [e]
    have : ((cOps (ks.take m ++ [ky])).map opC).flatten = ((cOps (ks.take m)).map opC).flatten ++ opC (cOp ky) := by simp [cOps]
    rw [this]
    exact hrow
  · rw [e] at hkey
    rcases List.mem_append.1 hkey with h | h
    · exact I.nm key h
    · obtain rfl := List.mem_singleton.1 h
      exact hn
theorem builtZ2 (W : World) : (Instr.buildSlice 23 2 #[(0, .int .i64 0), (1, .int .i64 0)]).run Tryz.prog W = .ok (.slice (some ⟨W.heap.size, 0, none⟩) 2 2) (W.alloc (.cells #[.int .i64 0, .int .i64 0] 3)) := by kernel_rfl
theorem builtZ3 (W : World) : (Instr.buildSlice 23 3 #[(0, .int .i64 0), (1, .int .i64 0), (2, .int .i64 0)]).run Tryz.prog W = .ok (.slice (some ⟨W.heap.size, 0, none⟩) 3 3) (W.alloc (.cells #[.int .i64 0, .int .i64 0, .int .i64 0] 3)) := by kernel_rfl
theorem wpList_zero2 (w : World) {ops : Array Oper} {rest : List Oper} {o : Oper} {a : Act} {Q : Exit → Act → World → Prop} (g : o.guard = none) (h : o.op = .buildSlice 23 2 #[(0, .const (.int .i64 0)), (1, .const (.int .i64 0))])
    (hK : wpList Tryz.prog ops Q rest (a.put o.dst (.slice (some ⟨w.heap.size, 0, none⟩) 2 2)) (w.alloc (.cells #[.int .i64 0, .int .i64 0] 3))) : wpList Tryz.prog ops Q (o :: rest) a w := by
  refine wpList_plain g fun K' hK' => ?_
  unfold Oper.wp
  simp only [execOp, h, List.map_toArray, List.map_cons, List.map_nil, Act.eval, Sem.run_bind, builtZ2, Result.andThen_ok]
  exact hK' _ _ hK
theorem wpList_zero3 (w : World) {ops : Array Oper} {rest : List Oper} {o : Oper} {a : Act} {Q : Exit → Act → World → Prop} (g : o.guard = none) (h : o.op = .buildSlice 23 3 #[(0, .const (.int .i64 0)), (1, .const (.int .i64 0)), (2, .const (.int .i64 0))])
    (hK : wpList Tryz.prog ops Q rest (a.put o.dst (.slice (some ⟨w.heap.size, 0, none⟩) 3 3)) (w.alloc (.cells #[.int .i64 0, .int .i64 0, .int .i64 0] 3))) : wpList Tryz.prog ops Q (o :: rest) a w := by
  refine wpList_plain g fun K' hK' => ?_
  unfold Oper.wp
  simp only [execOp, h, List.map_toArray, List.map_cons, List.map_nil, Act.eval, Sem.run_bind, builtZ3, Result.andThen_ok]
  exact hK' _ _ hK
theorem own_copy (w : World) (ad : Option Addr) (n c : Nat) (zs : List Int) (hl : zs.length ≤ 1000000) (h : IntsAt w (.slice ad n c) zs) :
    Calls Tryz.prog 14 #[.slice ad n c] w fun e w' => ∃ a1 c1, e = .returned (.slice a1 n c1) ∧ IntsAt w' (.slice a1 n c1) zs ∧ Below w.heap.size w w' := by
  obtain ⟨i0, hi, hz0, hz1, hz2⟩ := info_parts Tryz.info3n
  have hn : n = zs.length := by obtain ⟨_, _, he, _⟩ := h; injection he
  have HS := hid (src_ints h)
  have hl' : n ≤ 1000000 := by omega
  have HN := hid hn
  rw [← hn] at HS
  clear h hn hl
  go_enter Tryz.func14, Tryz.ntmps14
  go_wp2_with (at_builtin; refine wpList_append_own_srcS rfl _ _ 23 rfl w.heap.size 3 i0 _ 1 8 Tryz.underlying23 hi hz0 hz1 hz2 rfl (by decide) _ _ _ rfl (World.ownsRow_nil _ _ _ _) _ n (zs.map (Value.int .i64)) rfl HS.out (ints_one _) ?hm2 ?hm3 ?hm4 ?_; (case hm2 => unfold maxLen; omega); (case hm3 => omega); (case hm4 => exact Nat.le_refl _); intro v3 w3 hown3 hgrow3 _)
  rw [Nat.zero_add, List.nil_append] at hown3
  obtain ⟨a3, c3, rfl⟩ := row_shape hown3
  have HT : Hid (IntsAt w3 (.slice a3 n c3) zs) := (show IntsAt _ _ _ from by
    have h := hown3
    rw [HN.out] at h ⊢
    exact (intsT_of_owns h).at)
  have HB : Hid (Below w.heap.size w w3) := (show Below _ _ _ from (Below.refl _ w).grown hgrow3 (Nat.le_refl _) (fun k hk => by cases hk))
  clear hown3 hgrow3
  go_wp2
  go_ret
  exact ⟨a3, c3, rfl, HT.out, HB.out⟩
end Go.Proofs.YtefpnojanldkeaaGreatDoor
namespace Go.Proofs.YtefpnojanldkeaaGreatDoor
open Go.ChangeShapes Go.WideShapes Go.ChangeAt Go.RowKit
set_option maxRecDepth 100000
set_option linter.unusedSectionVars false
variable [Inhabited ComV] [DecidableEq D3] [Inhabited D3] [Inhabited Dd] [Inhabited Dn] [Inhabited OpV]

theorem Tryz.laidOutP : laidOutB Tryz.prog = true := by kernel_rfl
theorem Tryz.cellsP3 : Tryz.prog.cellsOf 3 = 1 := by kernel_rfl
theorem Tryz.cellsP9 : Tryz.prog.cellsOf 9 = 1 := by kernel_rfl
theorem Tryz.readP22 : Tryz.prog.readableRec 22 = true := by kernel_rfl
theorem Tryz.ltP22 : 22 < Tryz.prog.types.size := of_decide_eq_true (by kernel_rfl)
theorem Tryz.readP23 : Tryz.prog.readableRec 23 = true := by kernel_rfl
theorem Tryz.ltP23 : 23 < Tryz.prog.types.size := of_decide_eq_true (by kernel_rfl)
def StrsIn (w : World) (v : Value) (ks : List ByteArray) : Prop := ∃ ad cap, v = .slice ad ks.length cap ∧ (ks = [] ∨ ∃ b off, ad = some ⟨b, off, none⟩ ∧ ∀ i, (hi : i < ks.length) → w.cell? ⟨b, off + i, none⟩ = some (.string ks[i]))
theorem strs_view {H : Type} {enc : TypeId × Value → H} {W : World} {base : Nat} {v : Value} {d : DataW H} {p : List MemPlace} (hv : Value.okWide Tryz.prog W .any base 22 v) (h : DataW.Trod enc Tryz.prog W 0 (fun _ => true) true 22 v d p) :
    ∃ ks, StrsIn W v ks := by
  obtain ⟨a0, len, cap, rfl⟩ := okWide_slice Tryz.underlying22 hv
  obtain ⟨fuel, hf⟩ := h
  rcases Go.Deep.open_strs Tryz.underlying22 Tryz.underlying9 Tryz.cellsP9 hf with ⟨hcs, hx⟩ | ⟨a, len', cap', m, Sx, hcs, _, hl, hm, hz, hx, hcell⟩
  · simp [Value.cells] at hcs
    obtain ⟨rfl, rfl, rfl⟩ := hcs
    exact ⟨[], none, 0, rfl, .inl rfl⟩
  · simp [Value.cells] at hcs
    obtain ⟨rfl, rfl, rfl⟩ := hcs
    simp only [if_true] at hz
    refine ⟨(List.range len).map Sx, some a, cap, by simp, ?_⟩
    by_cases h0 : len = 0
    · subst h0; exact .inl rfl
    · obtain ⟨b, off, spot⟩ := a
      have hspot : spot = none := by simpa [Addr.add] using World.cell?_spot (hcell 0 (by omega)).1
      subst hspot
      refine .inr ⟨b, off, rfl, fun i hi => ?_⟩
      have hi' : i < len := by simpa using hi
      have h1 := (hcell i (by omega)).1
      rw [Go.WideShapes.add_plain] at h1
      rw [h1]
      simp
theorem strs_stay {H : Type} {enc : TypeId × Value → H} {W W' : World} {v : Value} {d : DataW H} {p : List MemPlace} (h : DataW.Trod enc Tryz.prog W 0 (fun _ => true) true 22 v d p) (hb : Below W.heap.size W W') (hlt : ∀ x ∈ p, x.block < W.heap.size) :
    DataW.Trod enc Tryz.prog W' 0 (fun b => decide (b < W.heap.size)) true 22 v d p :=
  Below.trod Tryz.laidOutP Tryz.readP22 Tryz.ltP22 h hb hlt
theorem ints_view {H : Type} {enc : TypeId × Value → H} {W : World} {base : Nat} {v : Value} {d : DataW H} {p : List MemPlace} (hv : Value.okWide Tryz.prog W .any base 23 v) (h : DataW.Trod enc Tryz.prog W 0 (fun _ => true) true 23 v d p) :
    ∃ zs, IntsAt W v zs := by
  obtain ⟨a0, len, cap, rfl⟩ := okWide_slice Tryz.underlying23 hv
  obtain ⟨fuel, hf⟩ := h
  rcases open_ints Tryz.underlying23 Tryz.underlying3 Tryz.cellsP3 hf with ⟨hcs, hx⟩ | ⟨a, len', cap', zs, hcs, _, hl, hm, hz, hx, hcell, hwz⟩
  · simp [Value.cells] at hcs
    obtain ⟨rfl, rfl, rfl⟩ := hcs
    exact ⟨[], none, 0, rfl, (fun _ => rfl), .inl rfl⟩
  · simp [Value.cells] at hcs
    obtain ⟨rfl, rfl, rfl⟩ := hcs
    simp only [if_true] at hz
    have hlen : (zs.take len).length = len := by rw [List.length_take]; omega
    refine ⟨zs.take len, some a, cap, by rw [hlen], (fun h => by cases h), ?_⟩
    by_cases h0 : len = 0
    · subst h0; exact .inl rfl
    · obtain ⟨b, off, rfl, hc⟩ := ints_at hcell (by omega)
      refine .inr ⟨b, off, rfl, fun t ht => ?_⟩
      rw [hlen] at ht
      rw [hc t (by omega)]
      simp [List.getD_eq_getElem?_getD, ht]
theorem ints_stay {H : Type} {enc : TypeId × Value → H} {W W' : World} {v : Value} {d : DataW H} {p : List MemPlace} (h : DataW.Trod enc Tryz.prog W 0 (fun _ => true) true 23 v d p) (hb : Below W.heap.size W W') (hlt : ∀ x ∈ p, x.block < W.heap.size) :
    DataW.Trod enc Tryz.prog W' 0 (fun b => decide (b < W.heap.size)) true 23 v d p :=
  Below.trod Tryz.laidOutP Tryz.readP23 Tryz.ltP23 h hb hlt
end Go.Proofs.YtefpnojanldkeaaGreatDoor
