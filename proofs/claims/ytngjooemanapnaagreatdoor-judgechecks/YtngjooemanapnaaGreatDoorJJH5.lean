/- trueReads: what of all commits was within, and were the reads so?; trueReads by its contract; trueReads by its contract: the closure, and what it has captured. -/
import Derived.Test.YtngjooemanapnaaGreatDoorJJI3
import Derived.Lib.SliceRun
import Derived.Lib.RowBridge
namespace Go.Proofs.YtngjooemanapnaaGreatDoor
open Go.RowKit Go.Sort Go.Maps
set_option maxRecDepth 100000

theorem valA_set_len (ds : List Dn) : (valA ds).set.length ≤ ds.length := by
  unfold valA
  split
  · exact Nat.zero_le _
  · split
    · exact Nat.zero_le _
    · split
      · exact Nat.zero_le _
      · show (setA _).length ≤ _
        unfold setA
        refine Nat.le_trans (Lib.compact_length_le _) ?_
        rw [List.length_mergeSort, List.length_map, List.length_map]
        unfold standA
        exact List.length_filter_le _ _
theorem opsR_set_len {key : ByteArray} {l : List ComV} (hl : l.length ≤ 1000) (hok : ∀ i, i < l.length → listBad l i = 0) : (valA (opsR key l)).set.length ≤ 1000000 := by
  have h1 := isOps_len (opsR_isOps key l) (fun c hc => by
    obtain ⟨i, hi, rfl⟩ := List.getElem_of_mem hc
    have := (comOk_of (c := l[i]!) (by
      have := hok i hi
      unfold listBad at this
      split at this
      · rename_i h; exact absurd this h
      · rename_i h; simpa using h)).few
    rwa [getElem!_pos l i hi] at this)
  have := valA_set_len (opsR key l)
  omega
theorem src_owns {w : World} {base : Nat} {v : Value} {n : Nat} {news : List Value} (h : w.ownsRow base 41 3 v n news) : SrcAt w v n 3 news := by
  obtain ⟨hl, h2⟩ := h
  rcases h2 with ⟨rfl, h0⟩ | ⟨g, cap, cur, rfl, hb, hh, hn, hm, hs, ht⟩
  · exact .inl ⟨by rfl, h0, List.eq_nil_of_length_eq_zero (by omega)⟩
  · refine .inr ⟨_, cap, rfl, hl, fun j u hu => ?_⟩
    rw [Addr.add_lit, Nat.zero_add]
    simp only [World.cell?, hh]
    rw [← ht, List.getElem?_take] at hu
    split at hu
    · rw [Array.getElem?_toList] at hu
      rw [hu]
      rfl
    · cases hu
def ClRet (w : World) (n : Nat) (news : List Value) (x : Ending) (w' : World) : Prop := ∃ a c, x = .returned (.slice a n c) ∧ w'.ownsRow w.heap.size 41 3 (.slice a n c) n news ∧ Below w.heap.size w w'
set_option maxHeartbeats 2000000 in
theorem clone49 (w : World) (a : Option Addr) (n c : Nat) (news : List Value) (h : SrcAt w (.slice a n c) n 3 news) (h1 : ∀ u ∈ news, u.oneCell' = true) (hl : n ≤ 1000000) : Calls Tryz.prog 49 #[.slice a n c] w (ClRet w n news) := by
  have q22 : ∀ (w : World) (a : Option Addr) (n c n' c' : Nat), (binOp .eql 96 (.slice a n c) (.slice none n' c')).run Tryz.prog w = .ok (.bool a.isNone) w := fun w a n c n' c' => Lib.run_eql_slice_nil w _ _ a n c n' c' Tryz.underlying96
  obtain ⟨i0, hi, hz0, hz1, hz2⟩ := info_parts info41
  have HS := hid h
  have H1 := hid h1
  clear h h1
  cases a with
  | none =>
    have hh : n = 0 ∧ c = 0 ∧ news = [] := by
      rcases HS.out with ⟨h1, h2, h3⟩ | ⟨ad, c', h1, _⟩
      · injection h1 with _ h4 h5
        exact ⟨h4, h5, h3⟩
      · cases h1
    obtain ⟨rfl, rfl, rfl⟩ := hh
    go_enter Tryz.func49, Tryz.ntmps49
    go_wp2
    go_ret
    exact ⟨none, 0, rfl, World.ownsRow_nil _ _ _ _, Below.refl _ _⟩
  | some ad =>
    have hsrc : ∀ o, SrcAt (w.alloc o) (.slice (some ad) n c) n 3 news := fun o => by
      rcases HS.out with ⟨h1, _⟩ | ⟨ad', c', h1, h2, h3⟩
      · cases h1
      · exact .inr ⟨ad', c', h1, h2, fun j u hu => cell_alloc (h3 j u hu) o⟩
    have HSR := hid hsrc
    clear hsrc HS
    go_enter Tryz.func49, Tryz.ntmps49
    go_wp2_with (at_builtin; refine wpList_append_own_src rfl _ _ 96 rfl w.heap.size 41 i0 _ 3 56 Tryz.underlying96 hi hz0 hz1 hz2 rfl (by decide) _ _ _ rfl (World.ownsRow_made w #[] 0 (Nat.le_refl _) (Nat.zero_le _) rfl) _ n news rfl (HSR.out _) H1.out ?hm2 ?hm3 ?hm4 ?_; (case hm2 => unfold maxLen; omega); (case hm3 => omega); (case hm4 => simp); intro v3 w3 hown3 hgrow3)
    rw [Nat.zero_add, List.nil_append] at hown3
    obtain ⟨a3, c3, rfl⟩ := row_shape hown3
    have HT := hid hown3
    have HB : Hid (Below w.heap.size w w3) := ((Below.refl _ w).alloc (Nat.le_refl _) _).grown hgrow3 (by simp) (fun k hk => ((World.ownsRow_made (e := 41) (size := 3) (base := w.heap.size) w #[] 0 (Nat.le_refl _) (Nat.zero_le _) rfl).lt k hk).1)
    clear hown3 hgrow3
    go_wp2
    go_ret
    exact ⟨a3, c3, rfl, HT.out, HB.out⟩
/-- A row of one's own, by its commits. -/
theorem holds_owns {G : Cm → Prop} [Inhabited (CmG G)] {w : World} {base : Nat} {v : Value} {n : Nat} {zs : List (CmG G)} (hn : n = zs.length) (h : w.ownsRow base 41 3 v n ((zs.map (·.1)).flatMap Cm.enc)) : (v = .slice none 0 0 ∧ zs = []) ∨ ∃ g cap, v = .slice (some ⟨g, 0, none⟩) zs.length cap ∧ base ≤ g ∧ g < w.heap.size ∧ zs.length ≤ cap ∧ HoldsK encG 3 w g 0 zs.toArray := by
  subst hn
  obtain ⟨_, h2⟩ := h
  rcases h2 with ⟨rfl, h0⟩ | ⟨g, cap, cur, rfl, hb, hh, hn, hm, hs, ht⟩
  · exact .inl ⟨rfl, List.eq_nil_of_length_eq_zero h0⟩
  · refine .inr ⟨g, cap, rfl, hb, lt_of_heap hh, hn, ?_⟩
    rw [holdsC_iff]
    intro j hj i hi
    have hj' : j < zs.length := by simpa using hj
    have e := flat_enc (zs.map (·.1)) j i (by simpa using hj') hi
    rw [← ht, List.getElem?_take, if_pos (by omega), Array.getElem?_toList, List.getElem?_map, List.getElem?_eq_getElem hj'] at e
    have e2 : cur[j * 3 + i]? = some ((encG zs.toArray[j]!)[i]!) := by
      have e3 : cur[j * 3 + i]? = (encG zs[j])[i]? := e
      have e4 : zs.toArray[j]! = zs[j] := by rw [getElem!_pos zs.toArray j hj]; simp
      rw [e3, e4, getElem!_pos (encG zs[j]) i (by rw [encG_length]; exact hi), List.getElem?_eq_getElem (by rw [encG_length]; exact hi)]
    refine ⟨?_, ?_⟩
    · simp only [World.cell?, hh]
      rw [e2]
      simp
    · simp only [World.frozen?, hh]
      simp
theorem coms_holds {G : Cm → Prop} [Inhabited (CmG G)] {w : World} {g n cap : Nat} {zs : List (CmG G)} (hn : n = zs.length) (hc : zs.length ≤ cap) (h : HoldsK encG 3 w g 0 zs.toArray) (hg : ∀ x : CmG G, GoodC w x.1) : ComsAt w (.slice (some ⟨g, 0, none⟩) n cap) (zs.map fun x => x.1.c) := by
  have := coms_of_cells (w := w) (b := g) (n := n) (cap := cap) (xs := zs.map (·.1)) (by rw [List.length_map]; exact hn) (by rw [List.length_map]; exact hc) (fun j hj i u hu => by
    rw [List.length_map] at hj
    rw [List.getElem?_map, List.getElem?_eq_getElem hj] at hu
    have hi : i < 3 := (List.getElem?_eq_some_iff.1 hu).1
    have := (holdsC_iff.1 h j (by simpa using hj) i hi).1
    rw [Nat.zero_add, this, getElem!_pos zs.toArray j (by simpa using hj)]
    have e : (encG zs.toArray[j])[i]? = some u := hu
    rw [List.getElem!_eq_getElem?_getD, e]
    rfl) (fun x hx => by obtain ⟨y, _, rfl⟩ := List.mem_map.1 hx; exact hg y)
  rw [List.map_map] at this
  exact this
end Go.Proofs.YtngjooemanapnaaGreatDoor
namespace Go.Proofs.YtngjooemanapnaaGreatDoor
open Go.RowKit Go.Sort Go.Maps
set_option maxRecDepth 100000

/-- A commit in memory that is not too great. -/
abbrev GC (wq : World) (x : Cm) : Prop := GoodC wq x ∧ SmallC x.c
set_option maxHeartbeats 2000000 in
/-- Is a commit not within? -/
theorem keep_any (A : Nat → Addr) (wq W : World) (hq : Below wq.heap.size wq W) (hE : E4 A W) (h12 : 12 ≤ W.heap.size) (eb : Nat) (e : EvV) (av rv wv ov : Value) (hbox : W.heap[eb]? = some (.cells (evCells e av rv wv ov).toArray 69 (0, 0))) (he : EvAt wq e av wv ov) (hz : e.at_.length ≤ 1000000) (x : CmG (GC wq)) :
    Calls Tryz.prog 50 #[.agg (encG x).toArray, .pointer (some ⟨eb, 0, none⟩)] W fun r w' => r = .returned (.bool (!inB x.1.c.when_ e.at_)) ∧ ∃ n, w' = (W.alloc (.cells (encG x).toArray 41)).drewN n := by
  obtain ⟨⟨u1, u2, u3, u4, u5, u6, u7, uc⟩, ⟨⟨g1, g2, g3⟩, g4⟩⟩ := x
  simp only [encG, Cm.enc] at g1 g2 g3 g4 ⊢
  have K := fun o => hid (withinJ_any A (W.alloc o) (hE.below (below_alloc _ _) h12) (.slice u1 u2 u3) av _ _ (g1.mono (hq.trans ((below_alloc W o).mono hq.size)) (Nat.le_refl _)) (he.at_.mono (hq.trans ((below_alloc W o).mono hq.size)) (Nat.le_refl _)) g4.1 hz)
  obtain ⟨aa, ac, rfl⟩ := he.at_.slice
  have c2 : ∀ o, (W.alloc o).cell? ⟨eb, 2, none⟩ = some (.slice aa e.at_.length ac) := fun o => cell_alloc ((cell_of hbox).trans rfl) o
  have hne : eb ≠ W.heap.size := by have := lt_of_heap hbox; omega
  obtain ⟨q, hQ⟩ : ∃ q, q = inB uc.when_ e.at_ := ⟨_, rfl⟩
  rw [← hQ] at K ⊢
  clear hbox he g1 g2 g3 g4 hE hq hQ hz
  go_enter Tryz.func50, Tryz.ntmps50
  go_wp2_with fail
  with_reducible refine (K _).out.mono ?_
  rintro r w' ⟨rfl, n, rfl⟩
  go_wp2
  go_ret
  exact ⟨rfl, n, rfl⟩
theorem not_all {α : Type} (p : α → Bool) (l : List α) : (!l.all p) = l.any fun x => !p x := by
  induction l with
  | nil => rfl
  | cons a l ih => rw [List.all_cons, List.any_cons, Bool.not_and, ih]
/-- A read of memory, and what its set reads as. -/
structure Rd where
  key : ByteArray
  kind : Int
  text : ByteArray
  n : Int
  sa : Option Addr
  sn : Nat
  sc : Nat
  set : List (List UInt8)
def Rd.enc (x : Rd) : List Value := [.string x.key, .int .i64 x.kind, .string x.text, .int .i64 x.n, .slice x.sa x.sn x.sc]
def Rd.sn_ (x : Rd) : SnV := ⟨x.key, ⟨x.kind, x.text, x.n, x.set⟩⟩
abbrev RdG (wq : World) := { x : Rd // StrsX wq (.slice x.sa x.sn x.sc) x.set }
def encR {wq : World} (x : RdG wq) : List Value := x.1.enc
/-- Reads of memory. -/
theorem rds_of {w : World} : ∀ {rows : List (List Value)} {rs : List SnV}, F2 (SnRow w) rows rs → ∃ zs : List (RdG w), zs.map encR = rows ∧ zs.map (·.1.sn_) = rs
  | [], [], _ => ⟨[], rfl, rfl⟩
  | r :: rows, s :: rs, ⟨⟨sv, h1, h2⟩, h⟩ => by
    obtain ⟨zs, e1, e2⟩ := rds_of h
    obtain ⟨a, c, rfl⟩ := h2.len
    refine ⟨⟨⟨s.key, s.v.kind, s.v.text, s.v.n, a, s.v.set.length, c, s.v.set⟩, h2⟩ :: zs, ?_, ?_⟩
    · rw [List.map_cons, e1, h1]; rfl
    · rw [List.map_cons, e2]; rfl
set_option maxHeartbeats 2000000 in
theorem notTrue_any (A : Nat → Addr) (wq W : World) (hq : Below wq.heap.size wq W) (hE : E5 A W) (sb : Nat) (sv : Value) (l : List ComV) (hs : W.cell? ⟨sb, 0, none⟩ = some sv) (hv : ComsAt W sv l) (hl : l.length ≤ 1000) (hsm : ∀ c ∈ l, SmallC c) (hok : ∀ i, i < l.length → listBad l i = 0) (x : RdG wq) :
    Calls Tryz.prog 52 #[.agg (encR x).toArray, .pointer (some ⟨sb, 0, none⟩)] W fun r w' => r = .returned (.bool (!trueB l x.1.sn_)) ∧ Below W.heap.size W w' := by
  obtain ⟨⟨u1, u2, u3, u4, u5, u6, u7, us⟩, hx⟩ := x
  have h13 := hE.size
  simp only [encR, Rd.enc, Rd.sn_] at hx ⊢
  have hb := fun o => below_alloc W o
  have K := fun o => hid (isTrue_any A (W.alloc o) (hE.below (below_alloc _ _) h13) ⟨u1, ⟨u2, u3, u4, us⟩⟩ (.slice u5 u6 u7) (hx.mono (hq.trans ((below_alloc W o).mono hq.size)) (Nat.le_refl _)) sv l (hv.mono (below_alloc W o) (Nat.le_refl _)) hl hsm hok (opsR_set_len hl hok))
  obtain ⟨a, c, rfl, _⟩ := hv.shape
  have c0 : ∀ o, (W.alloc o).cell? ⟨sb, 0, none⟩ = some (.slice a l.length c) := fun o => cell_alloc hs o
  have hne : sb ≠ W.heap.size := by have := lt_of_cell hs; simp only at this; omega
  obtain ⟨q, hQ⟩ : ∃ q, q = trueB l ⟨u1, ⟨u2, u3, u4, us⟩⟩ := ⟨_, rfl⟩
  rw [← hQ] at K ⊢
  clear hx hv hs hE hok hsm hQ hq
  go_enter Tryz.func52, Tryz.ntmps52
  go_wp2_with fail
  with_reducible refine (K _).out.mono ?_
  rintro r w' ⟨rfl, hbb⟩
  have B := hid hbb
  clear hbb K
  go_wp2
  go_ret
  exact ⟨rfl, (hb _).trans (B.out.mono (by simp))⟩
theorem indexFuncR_none (w : World) (p : Option Addr) (cap : Nat) (fv : Value) : Calls Tryz.prog 73 #[.slice p 0 cap, fv] w fun e w' => e = .returned (.int .i64 (-1)) ∧ w' = w := by
  go_enter Tryz.func73, Tryz.ntmps73
  go_wp2
  refine wp_loop_rounds 1 ?_
  rw [rounds_succ]
  go_wp2
  go_ret
  exact ⟨rfl, rfl⟩
theorem containsR_none (w : World) (p : Option Addr) (cap : Nat) (fv : Value) : Calls Tryz.prog 51 #[.slice p 0 cap, fv] w fun e w' => e = .returned (.bool false) ∧ w' = w := by
  go_enter Tryz.func51, Tryz.ntmps51
  go_wp2_with (go_at_call 73; refine (indexFuncR_none _ _ _ _).mono ?_; rintro e w' ⟨rfl, rfl⟩)
  go_ret
  exact ⟨rfl, rfl⟩
theorem lies_any (A : Nat → Addr) (wq w : World) (hq : Below wq.heap.size wq w) (hE : E5 A w) (sb : Nat) (sv : Value) (l : List ComV) (hs : w.cell? ⟨sb, 0, none⟩ = some sv) (hv : ComsAt w sv l) (hl : l.length ≤ 1000) (hsm : ∀ c ∈ l, SmallC c) (hok : ∀ i, i < l.length → listBad l i = 0) (rv : Value) (rs : List SnV) (hr : SnsAt wq rv rs) (hrl : rs.length ≤ 1000000) :
    Calls Tryz.prog 51 #[rv, .func (.func 52) #[] #[.pointer (some ⟨sb, 0, none⟩)]] w fun r w' => r = .returned (.bool (!readsB l rs)) ∧ Below w.heap.size w w' := by
  have h13 := hE.size
  obtain ⟨rows, ⟨ad, cap, rfl, hn, hcap, h⟩, hf⟩ := hr
  have hlen := f2_len hf
  have hneg : (!readsB l rs) = rs.any fun r => !trueB l r := by
    unfold readsB
    exact not_all _ _
  rw [hneg]
  by_cases h0 : rs = []
  · subst h0
    obtain rfl : rows = [] := List.eq_nil_of_length_eq_zero hlen
    refine (containsR_none w ad cap _).mono ?_
    rintro e w' ⟨rfl, rfl⟩
    exact ⟨rfl, Below.refl _ _⟩
  · have hpos : 0 < rs.length := List.length_pos_iff.2 h0
    obtain ⟨zs, e1, e2⟩ := rds_of hf
    have hzl : zs.length = rs.length := by rw [← e2, List.length_map]
    rcases h with h | ⟨b, off, rfl, h⟩
    · rw [h] at hlen; simp at hlen; omega
    · have hcell : ∀ j (hj : j < zs.length), ∀ i u, (encR zs[j])[i]? = some u → w.cell? ⟨b, off + j * 5 + i, none⟩ = some u := fun j hj i u hu => by
        have := (h j (encR zs[j]) (by rw [← e1, List.getElem?_map, List.getElem?_eq_getElem hj]; rfl)).2 i u hu
        rw [hq.cell (p := ⟨b, off + j * 5 + i, none⟩) (lt_of_cell this)]
        exact this
      have hb : b < w.heap.size := lt_of_cell (hcell 0 (by omega) 0 _ rfl)
      haveI : Inhabited (RdG wq) := ⟨zs[0]'(by omega)⟩
      have hsl := lt_of_cell hs
      have hcon := AnyQ.slices_ContainsFunc Tryz.hasSn 5 Tryz.isAgg70 Tryz.sizeOf70 (encR (wq := wq)) (fun _ => rfl) (fun x => !trueB l x.1.sn_) 52 #[.pointer (some ⟨sb, 0, none⟩)] (enters_of Tryz.func52 (by kernel_rfl) rfl) b off rs.length cap zs w
        (fun W x hW => (notTrue_any A wq W (hq.trans (hW.mono hq.size)) (hE.below hW h13) sb sv l (by rw [hW.cell (p := ⟨sb, 0, none⟩) hsl]; exact hs) (hv.mono hW (Nat.le_refl _)) hl hsm hok x).mono fun _ _ ⟨he, hw⟩ => ⟨he, hW.trans (hw.mono hW.size)⟩) (by omega) (by omega) hb (fun j hj i u hu => by
          refine hcell j hj i u ?_
          rw [← getElem!_pos zs j hj]
          exact hu)
      change Calls Tryz.prog 51 _ _ _ at hcon
      rw [List.take_of_length_le (by omega)] at hcon
      rw [show rows.length = rs.length by omega]
      refine hcon.mono ?_
      rintro e w' ⟨rfl, hw⟩
      exact ⟨ret_bool (by rw [← e2, List.any_map]; rfl), hw⟩
end Go.Proofs.YtngjooemanapnaaGreatDoor
namespace Go.Proofs.YtngjooemanapnaaGreatDoor
open Go.RowKit Go.Sort Go.Maps
set_option maxRecDepth 100000

theorem cut_none (w : World) (p : Option Addr) (cap : Nat) (fv : Value) : Calls Tryz.prog 48 #[.slice p 0 cap, fv] w fun e w' => e = .returned (.slice p 0 cap) ∧ w' = w := by
  go_enter Tryz.func48, Tryz.ntmps48
  go_wp2_with (go_at_call 72; refine (indexFuncC_none _ _ _ _).mono ?_; rintro e w' ⟨rfl, rfl⟩)
  go_ret
  exact ⟨rfl, rfl⟩
/-- What is left of a row of one's own: the commits that are within. -/
theorem cut_any (A : Nat → Addr) (wq w : World) (B : Nat) (hq : Below wq.heap.size wq w) (hE : E4 A w) (h12 : 12 ≤ wq.heap.size) (eb : Nat) (e : EvV) (av rv wv ov : Value) (hbox : w.heap[eb]? = some (.cells (evCells e av rv wv ov).toArray 69 (0, 0))) (he : EvAt wq e av wv ov) (hz : e.at_.length ≤ 1000000) (heB : eb < B) (hqB : wq.heap.size ≤ B) (v : Value) (zs : List (CmG (GC wq))) (hl : zs.length ≤ 1000) (hrow : w.ownsRow B 41 3 v zs.length ((zs.map (·.1)).flatMap Cm.enc)) :
    Calls Tryz.prog 48 #[v, .func (.func 50) #[] #[.pointer (some ⟨eb, 0, none⟩)]] w fun r w' => ∃ a n c, r = .returned (.slice a n c) ∧ ComsAt w' (.slice a n c) ((zs.filter fun x => inB x.1.c.when_ e.at_).map fun x => x.1.c) ∧ Below B w w' := by
  by_cases h0 : zs = []
  · subst h0
    obtain ⟨_, h2⟩ := hrow
    rcases h2 with ⟨rfl, _⟩ | ⟨g, cap, cur, rfl, hb, hh, hn, hm, hs, ht⟩
    · refine (cut_none w none 0 _).mono ?_
      rintro r w' ⟨rfl, rfl⟩
      exact ⟨_, _, _, rfl, coms_nil _, Below.refl _ _⟩
    · refine (cut_none w (some ⟨g, 0, none⟩) cap _).mono ?_
      rintro r w' ⟨rfl, rfl⟩
      exact ⟨_, _, _, rfl, ⟨[], ⟨_, cap, rfl, (fun e => by cases e), Nat.zero_le _, .inl rfl⟩, trivial⟩, Below.refl _ _⟩
  · have hpos : 0 < zs.length := List.length_pos_iff.2 h0
    haveI : Inhabited (CmG (GC wq)) := ⟨zs[0]'hpos⟩
    rcases holds_owns rfl hrow with ⟨_, h⟩ | ⟨g, cap, rfl, hB, hg, hcap, hH⟩
    · exact absurd h h0
    · have hqs := hq.size
      have key := deleteFuncC_some w B g cap 50 #[.pointer (some ⟨eb, 0, none⟩)] (fun x => !inB x.1.c.when_ e.at_) zs.toArray (enters_of Tryz.func50 (by kernel_rfl) rfl)
        (fun W => Below wq.heap.size wq W ∧ E4 A W ∧ W.heap[eb]? = some (.cells (evCells e av rv wv ov).toArray 69 (0, 0)))
        (fun W hW => ⟨hq.trans (hW.mono hqs), hE.below hW (by omega), (hW.block _ (lt_of_heap hbox)).trans hbox⟩)
        (fun W o h => ⟨h.1.trans ((below_alloc W o).mono h.1.size), h.2.1.below (below_alloc W o) (by have := h.1.size; omega), (heap_old h.2.2 o)⟩)
        (fun W o vs h => by
          have hb : Below B W (W.setCells g o vs) := below_setCells hB vs o (Below.refl B W)
          exact ⟨h.1.trans (hb.mono hqB), h.2.1.below hb (by omega), (hb.block _ heB).trans h.2.2⟩)
        (fun W n h => by
          have hb := below_draws (Below.refl W.heap.size W) n
          exact ⟨h.1.trans (hb.mono h.1.size), h.2.1.below hb (by have := h.1.size; omega), (hb.block _ (lt_of_heap h.2.2)).trans h.2.2⟩)
        (fun W x h => keep_any A wq W h.1 h.2.1 (by have := h.1.size; omega) eb e av rv wv ov h.2.2 he hz x) hB hg hH (by simpa using hcap) (by simp; omega)
      simp only [List.size_toArray, Bool.not_not] at key
      refine key.mono ?_
      rintro r w' ⟨rfl, h1, h2, h3⟩
      refine ⟨_, _, _, rfl, coms_holds rfl (Nat.le_trans (List.length_filter_le _ _) hcap) h1 (fun x => ?_), h2⟩
      exact x.2.1.mono (hq.trans (h2.mono hqB)) (Nat.le_refl _)
/-- What trueReads keeps. -/
structure AllAt (wq w : World) (sb : Nat) (xs : List Cm) : Prop where
  row : ∃ v, w.heap[sb]? = some (.cells #[v] 96 (0, 0)) ∧ w.ownsRow wq.heap.size 41 3 v xs.length (xs.flatMap Cm.enc)
  good : ∀ x ∈ xs, GC wq x
theorem AllAt.stay {wq w u : World} {sb : Nat} {xs : List Cm} (h : AllAt wq w sb xs) (hb : Below w.heap.size w u) : AllAt wq u sb xs := by
  obtain ⟨v, h1, h2⟩ := h.row
  exact ⟨⟨v, (hb.block _ (lt_of_heap h1)).trans h1, owns_below h2 fun q cs hq => hb.block q (lt_of_heap hq)⟩, h.good⟩
theorem cms_one (xs : List Cm) : ∀ u ∈ xs.flatMap Cm.enc, u.oneCell' = true := fun u hu => by
  obtain ⟨x, _, h⟩ := List.mem_flatMap.1 hu
  exact x.enc_one u h
set_option maxHeartbeats 4000000 in
theorem trueR_any (A : Nat → Addr) (wq w : World) (hq : Below wq.heap.size wq w) (hE : E5 A w) (h13 : 13 ≤ wq.heap.size) (hsum : w.cell? ⟨7, 0, none⟩ = some (.iface 223 (.pointer (some (A 7))))) (sb : Nat) (xs : List Cm) (hA : AllAt wq w sb xs) (hxl : xs.length ≤ 1000) (e : EvV) (av rv wv ov : Value) (he : EvAt wq e av wv ov) (hr : SnsAt wq rv e.reads) (hz : e.at_.length ≤ 1000000) (hrl : e.reads.length ≤ 1000000)
    (hok : ∀ i, i < ((xs.map (·.c)).filter fun c => inB c.when_ e.at_).length → listBad ((xs.map (·.c)).filter fun c => inB c.when_ e.at_) i = 0) :
    Calls Tryz.prog 47 #[.agg (evCells e av rv wv ov).toArray, .pointer (some ⟨sb, 0, none⟩)] w (VdRet A (if readsB ((xs.map (·.c)).filter fun c => inB c.when_ e.at_) e.reads = false then 8 else 0) w) := by
  obtain ⟨zs, hzs⟩ := cm_sub hA.good
  have hzl : zs.length = xs.length := by rw [← hzs, List.length_map]
  obtain ⟨cs, hcs⟩ : ∃ cs, cs = (xs.map (·.c)).filter fun c => inB c.when_ e.at_ := ⟨_, rfl⟩
  have hcz : ((zs.filter fun x => inB x.1.c.when_ e.at_).map fun x => x.1.c) = cs := by
    rw [hcs, ← hzs, List.map_map, List.filter_map]
    rfl
  have hcl : cs.length ≤ 1000 := by
    rw [hcs]
    exact Nat.le_trans (List.length_filter_le _ _) (by rw [List.length_map]; exact hxl)
  have hcsm : ∀ c ∈ cs, SmallC c := fun c hc => by
    rw [← hcz] at hc
    obtain ⟨x, _, rfl⟩ := List.mem_map.1 hc
    exact x.2.2
  rw [← hcs] at hok ⊢
  obtain ⟨o0, ho0⟩ : ∃ o0, o0 = Obj.cells (evCells e av rv wv ov).toArray 69 := ⟨_, rfl⟩
  have hA0 := hA.stay (below_alloc w o0)
  have hE0 := hE.below (below_alloc w o0) (Nat.le_trans h13 hq.size)
  have hb0 := below_alloc w o0
  have hq0 : Below wq.heap.size wq (w.alloc o0) := hq.trans (hb0.mono hq.size)
  have hx0 : (w.alloc o0).heap[w.heap.size]? = some (.cells (evCells e av rv wv ov).toArray 69 (0, 0)) := by rw [ho0]; exact heap_new _ _
  obtain ⟨v, hv1, hv2⟩ := hA0.row
  obtain ⟨va, vc, rfl⟩ := row_shape hv2
  have K49 := hid (clone49 (w.alloc o0) va xs.length vc _ (src_owns hv2) (cms_one xs) (by omega))
  have cs0 : (w.alloc o0).cell? ⟨sb, 0, none⟩ = some (.slice va xs.length vc) := (cell_of hv1).trans rfl
  have hqs := hq.size
  have hs0 : w.heap.size < (w.alloc o0).heap.size := by simp
  have K48 : ∀ w2 v2, Hid (Below (w.alloc o0).heap.size (w.alloc o0) w2 → w2.ownsRow (w.alloc o0).heap.size 41 3 v2 xs.length (xs.flatMap Cm.enc) → Calls Tryz.prog 48 #[v2, .func (.func 50) #[] #[.pointer (some ⟨w.heap.size, 0, none⟩)]] w2 fun r w' => ∃ a n c, r = .returned (.slice a n c) ∧ ComsAt w' (.slice a n c) cs ∧ Below (w.alloc o0).heap.size w2 w') := fun w2 v2 => hid fun hb hr => by
    have := cut_any A wq w2 (w.alloc o0).heap.size (hq0.trans (hb.mono hq0.size)) (hE0.e4.below hb (by omega)) (by omega) w.heap.size e av rv wv ov ((hb.block _ hs0).trans hx0) he hz hs0 hq0.size v2 zs (by omega) (by rw [hzl, hzs]; exact hr)
    rw [hcz] at this
    exact this
  have K51 : ∀ w4 sb2 sv, Hid (Below (w.alloc o0).heap.size (w.alloc o0) w4 → w4.cell? ⟨sb2, 0, none⟩ = some sv → ComsAt w4 sv cs → Calls Tryz.prog 51 #[rv, .func (.func 52) #[] #[.pointer (some ⟨sb2, 0, none⟩)]] w4 fun r w' => r = .returned (.bool (!readsB cs e.reads)) ∧ Below w4.heap.size w4 w') := fun w4 sb2 sv => hid fun hb hc hv =>
    lies_any A wq w4 (hq0.trans (hb.mono hq0.size)) (hE0.below hb (by omega)) sb2 sv cs hc hv hcl hcsm hok rv e.reads hr hrl
  have HX : Hid (∀ u, Below (w.alloc o0).heap.size (w.alloc o0) u → u.heap[w.heap.size]? = some (.cells (evCells e av rv wv ov).toArray 69 (0, 0)) ∧ u.cell? ⟨7, 0, none⟩ = some (.iface 223 (.pointer (some (A 7))))) := hid fun u hu => by
    refine ⟨(hu.block _ hs0).trans hx0, ?_⟩
    rw [hu.cell (p := ⟨7, 0, none⟩) (by show 7 < _; omega)]
    exact cell_alloc hsum o0
  have hne : sb ≠ w.heap.size := by
    obtain ⟨_, h, _⟩ := hA.row
    have := lt_of_heap h
    omega
  obtain ⟨q, hQ⟩ : ∃ q, q = readsB cs e.reads := ⟨_, rfl⟩
  rw [← hQ] at K51 ⊢
  obtain ⟨kk, hkk⟩ : ∃ kk, kk = (if q = false then 8 else 0) := ⟨_, rfl⟩
  rw [← hkk]
  have HKK := hid hkk
  clear hkk
  obtain ⟨aa, ac, wa, wc, oa, oc, rfl, rfl, rfl⟩ := evAt_shape he
  obtain ⟨ra, rn, rc, rfl⟩ : ∃ a n c, rv = .slice a n c := by obtain ⟨_, ⟨a, c, rfl, _⟩, _⟩ := hr; exact ⟨_, _, _, rfl⟩
  have hb00 := hid hb0
  unfold evCells at ho0 HX ⊢
  rw [ho0] at cs0
  clear hA hA0 hE hE0 hb0 hq hq0 hx0 hv1 hv2 hsum hok hcs hcz hcl hcsm hzs hzl hQ he hr hz hrl
  go_enter Tryz.func47, Tryz.ntmps47
  go_wp2_with fail
  rw [← ho0]
  with_reducible refine K49.out.mono ?_
  rintro r w2 ⟨a2, c2, rfl, h2, hb2⟩
  have K48' := hid ((K48 w2 _).out hb2 h2)
  have B2 := hid hb2
  clear K49 K48 h2 hb2 ho0 cs0
  go_wp2_with fail
  with_reducible refine K48'.out.mono ?_
  rintro r w3 ⟨a3, n3, c3, rfl, h3, hb3⟩
  have B3 : Hid (Below (w.alloc o0).heap.size (w.alloc o0) w3) := hid (B2.out.trans hb3)
  have B4 : ∀ o, Hid (Below (w.alloc o0).heap.size (w.alloc o0) (w3.alloc o)) := fun o => hid (B3.out.alloc B3.out.size o)
  have K51' := fun o => hid ((K51 (w3.alloc (.cells #[.slice a3 n3 c3] o)) w3.heap.size _).out (B4 _).out ((cell_of (heap_new w3 _)).trans rfl) (h3.mono (below_alloc _ _) (Nat.le_refl _)))
  have x3 : ∀ o, (w3.alloc o).cell? ⟨w.heap.size, 3, none⟩ = some (.slice ra rn rc) := fun o => (cell_of (HX.out _ (B4 o).out).1).trans rfl
  clear K48' K51 h3 hb3
  go_wp2_with fail
  with_reducible refine (K51' _).out.mono ?_
  rintro r w5 ⟨rfl, hb5⟩
  have hb5' := (B4 _).out.trans (hb5.mono (B4 _).out.size)
  have x7 := (HX.out _ hb5').2
  have B5 : Hid (Below w.heap.size w w5) := hid (hb00.out.trans (hb5'.mono (by omega)))
  clear hb5 hb5' K51' x3 B4
  cases q with
  | true =>
    go_wp2
    go_ret
    exact ⟨by rw [HKK.out]; rfl, B5.out⟩
  | false =>
    go_wp2
    go_ret
    exact ⟨by rw [HKK.out]; rfl, B5.out⟩
/-- trueReads: what it captures. -/
theorem trueReads_any (wq : World) (l : List EvV) (v : Value) (hv : EvsAt wq v l) (hl : l.length ≤ 1000) (hsm : ∀ e ∈ l, SmallC e.c) (w : World) (hq : Below wq.heap.size wq w) : Calls Tryz.prog 24 #[v] w fun r w' => ∃ sb xs, r = .returned (.func (.func 47) #[] #[.pointer (some ⟨sb, 0, none⟩)]) ∧ AllAt wq w' sb xs ∧ xs.map (·.c) = comsL l ∧ Below w.heap.size w w' := by
  have K := hid (commitsOf_any wq w hq l v hv hl fun e he => (hsm e he).2.1)
  obtain ⟨va, vc, rfl, _⟩ := hv.shape
  have HSM := hid hsm
  have HQ := hid hq
  clear hv hsm hq
  go_enter Tryz.func24, Tryz.ntmps24
  go_wp2_with fail
  with_reducible refine K.out.mono ?_
  rintro r w2 ⟨xv, xs, rfl, h1, h2, h3, h4⟩
  have H1 := hid h1
  have H2 := hid h2
  have H3 := hid h3
  have H4 := hid h4
  obtain ⟨xa, xc, rfl⟩ := row_shape h1
  clear h1 h2 h3 h4 K
  go_wp2
  go_ret
  refine ⟨_, xs, rfl, ⟨⟨_, heap_new _ _, ?_⟩, fun x hx => ⟨H3.out x hx, ?_⟩⟩, H2.out, H4.out.alloc H4.out.size _⟩
  · have := owns_below H1.out fun q cs hq => (below_alloc w2 (.cells #[.slice xa xs.length xc] 96)).block q (lt_of_heap hq)
    obtain ⟨h5, h6⟩ := this
    refine ⟨h5, ?_⟩
    rcases h6 with h6 | ⟨g, cap, cur, k1, k2, k3⟩
    · exact .inl h6
    · exact .inr ⟨g, cap, cur, k1, Nat.le_trans HQ.out.size k2, k3⟩
  · have hm : x.c ∈ comsL l := by rw [← H2.out]; exact List.mem_map.2 ⟨x, hx, rfl⟩
    unfold comsL at hm
    rw [List.mem_filter, List.mem_map] at hm
    obtain ⟨⟨e, he, h⟩, _⟩ := hm
    rw [← h]
    exact HSM.out e he
end Go.Proofs.YtngjooemanapnaaGreatDoor
