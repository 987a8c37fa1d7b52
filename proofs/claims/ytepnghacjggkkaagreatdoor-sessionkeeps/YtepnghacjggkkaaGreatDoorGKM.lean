/- texts by its contract; Of by its contract, where nothing is wrong; Commits in another order, in parts, some twice: what once makes of them: plain mathematics; Ops in order, texts, which ops are live: plain mathematics. -/
import Derived.Test.YtepnghacjggkkaaGreatDoorGVLayT
import Derived.Test.YtepnghacjggkkaaGreatDoorGVOnce
import Derived.Ground.SlsfProg
import Derived.Shelf.SlGeneric
import Derived.Shelf.SlicesE.DeleteFunc
import Derived.Test.YtepnghacjggkkaaGreatDoorProg
import Derived.Test.YtepnghacjggkkaaGreatDoorGVSortN
import Derived.Laws.AppendOwnNone
import Derived.Laws.ResultCell
import Derived.Shelf.Slices.CompactS
import Derived.Shelf.Slices.In.SortNone
import Derived.Shelf.Sort.Plain
namespace Go.Proofs.YtepnghacjggkkaaGreatDoor
open Go.RowKit Go.Sort Go.Maps
set_option maxRecDepth 100000
set_option linter.unusedSectionVars false
variable [Inhabited ComV] [DecidableEq D3] [Inhabited D3] [Inhabited Dd] [Inhabited Dn] [Inhabited OpV]

def setA (ts : List ByteArray) : List (List UInt8) := Lib.compact ((ts.map (·.data.toList)).mergeSort fun x y => decide (x ≤ y))
def StrsAt (w : World) (v : Value) (ss : List (List UInt8)) : Prop :=
  ∃ ad cap, v = .slice ad ss.length cap ∧ (ss = [] ∨ ∃ b, ad = some ⟨b, 0, none⟩ ∧ ∀ t, t < ss.length → w.cell? ⟨b, t, none⟩ = some (encStr ss[t]!))
theorem setA_nil : setA [] = [] := by
  unfold setA
  simp [Lib.compact, Lib.compactUpTo]
theorem Tryz.info9 : (Tryz.prog.info? 9).map (fun i => (i.zero, i.size, i.bytes)) = some (some (.string ByteArray.empty), 1, 16) := by kernel_rfl
theorem encStr_data (s : ByteArray) : encStr s.data.toList = .string s := by
  unfold encStr
  simp
theorem below_putRowS {B : Nat} (w : World) (g n : Nat) (d : Array (List UInt8)) (os : Array Obj) (hB : B ≤ g) (hg : g < w.heap.size) : Below B w (grow (putRow encStr (Sort.ahead w n) g 0 d) os) := by
  refine ⟨rfl, rfl, rfl, by unfold putRow mapBlock; simp [Sort.ahead]; try omega, fun i hi => ?_⟩
  rw [heap_grow_old _ _ (by unfold putRow mapBlock; simp [Sort.ahead]; omega)]
  unfold putRow mapBlock
  simp only [Sort.ahead]
  simp [Array.getElem?_modify, show g ≠ i by omega]
theorem holdsS_of_owns {w : World} {base g n cap : Nat} {ts : List ByteArray} (h : w.ownsRow base 9 1 (.slice (some ⟨g, 0, none⟩) n cap) ts.length (ts.map Value.string)) : Holds encStr w g 0 (ts.map (·.data.toList)).toArray ∧ base ≤ g ∧ g < w.heap.size ∧ n = ts.length ∧ ts.length ≤ cap := by
  obtain ⟨_, h2⟩ := h
  rcases h2 with ⟨h, _⟩ | ⟨g', cap', cur, he, hb, hh, hn, hm, hs, ht⟩
  · cases h
  · cases he
    refine ⟨fun j hj => ?_, hb, (Array.getElem?_eq_some_iff.1 hh).1, rfl, hn⟩
    have hj' : j < ts.length := by simpa using hj
    have e : cur[j]? = some (.string ts[j]) := by
      have h1 : (cur.toList.take (ts.length * 1))[j]? = (ts.map Value.string)[j]? := by rw [ht]
      rw [List.getElem?_take, if_pos (by omega), Array.getElem?_toList] at h1
      rw [h1, List.getElem?_map, List.getElem?_eq_getElem hj']
      rfl
    refine ⟨?_, ?_⟩
    · simp only [World.cell?, hh, Nat.zero_add]
      rw [e]
      have : (ts.map (·.data.toList)).toArray[j]! = ts[j].data.toList := by simp [hj']
      rw [this, encStr_data]
      simp
    · simp only [World.frozen?, hh]
      simp
theorem compact_le (ss : List (List UInt8)) : (Lib.compact ss).length ≤ ss.length := by
  unfold Lib.compact Lib.compactUpTo
  rw [List.length_map]
  exact Nat.le_trans (List.length_filter_le _ _) (by simp)
def TextsRet (ts : List ByteArray) (w : World) (e : Ending) (w' : World) : Prop := ∃ v, e = .returned v ∧ StrsAt w' v (setA ts) ∧ Below w.heap.size w w' ∧ ∀ k, v.ownBlock = some k → w.heap.size ≤ k
theorem StrsAt.keep {w w' : World} {v : Value} {ss : List (List UInt8)} (h : StrsAt w v ss) (hk : ∀ k, v.ownBlock = some k → ∀ o, w'.cell? ⟨k, o, none⟩ = w.cell? ⟨k, o, none⟩) : StrsAt w' v ss := by
  obtain ⟨ad, cap, rfl, h⟩ := h
  refine ⟨ad, cap, rfl, ?_⟩
  rcases h with h | ⟨b, rfl, h⟩
  · exact .inl h
  · exact .inr ⟨b, rfl, fun t ht => by rw [hk b rfl t]; exact h t ht⟩
theorem texts_zero (w : World) (p : Option Addr) (c : Nat) : Calls Tryz.prog 121 #[.slice p 0 c] w fun e w' => TextsRet [] w e w' := by
  go_enter Tryz.func121, Tryz.ntmps121
  go_wp2
  refine wp_loop_rounds 1 ?_
  rw [rounds_succ]
  go_wp2_with (first | (go_at_call 83; refine (Tryz.slices_Sort_string_none _ _ _).mono ?_; rintro e w' ⟨rfl, rfl⟩) | (go_at_call 84; refine (Tryz.slices_Compact_string_empty _ _ _).mono ?_; rintro e w' ⟨rfl, rfl⟩))
  go_ret
  exact ⟨_, rfl, ⟨none, 0, by rw [setA_nil]; rfl, .inl setA_nil⟩, Below.refl _ _, fun k h => by cases h⟩
theorem texts_none (w : World) : Calls Tryz.prog 121 #[.slice none 0 0] w fun e w' => TextsRet [] w e w' := texts_zero w none 0
set_option maxHeartbeats 800000 in
theorem texts_n (w : World) (g m cap : Nat) (xs : List Dd) (hm : xs.length = m) (h0 : 0 < m) (hl : m ≤ 100000) (hg : g < w.heap.size) (hH : HoldsK Dd.enc 11 w g 0 xs.toArray) :
    Calls Tryz.prog 121 #[.slice (some ⟨g, 0, none⟩) m cap] w fun e w' => TextsRet (xs.map Dd.text) w e w' := by
  obtain ⟨i0, hi, hz0, hz1, hz2⟩ := info_parts Tryz.info9
  have HH := hid hH
  have HM := hid hm
  clear hH hm
  go_enter Tryz.func121, Tryz.ntmps121
  go_wp2
  go_loopw [3, 8] (fun v i wr => ∃ k : Nat, k ≤ m ∧ i = .int .i64 k ∧ Hid (Below w.heap.size w wr) ∧ Hid (wr.ownsRow w.heap.size 9 1 v (xs.take k).length (((xs.take k).map Dd.text).map Value.string))) (fun _ i _ => m - (intOf i).toNat)
  case atStart => exact ⟨0, Nat.zero_le _, rfl, Below.refl _ _, World.ownsRow_nil _ _ _ _⟩
  case round =>
    obtain ⟨k, hk, rfl, HB, HR⟩ := hrel
    have hsz := HB.out.size
    by_cases hlt : k < m
    · obtain ⟨u, hu⟩ : ∃ u, u = xs[k]! := ⟨_, rfl⟩
      obtain ⟨c0, c1, c2, c3, c4, c5, c6, c7, c8, c9, c10⟩ := holdsK_cells (holdsK_below HH.out HB.out hg) (j := k) (u := u) (by have := HM.out; simp; omega) (by rw [hu]; have := HM.out; rw [getElem!_pos xs.toArray k (by simp; omega), getElem!_pos xs k (by omega)]; simp)
      have hstep : ((xs.take (k + 1)).map Dd.text).map Value.string = ((xs.take k).map Dd.text).map Value.string ++ [.string u.text] := by
        rw [List.take_succ_eq_append_getElem (by have := HM.out; omega), hu, getElem!_pos xs k (by have := HM.out; omega), List.map_append, List.map_append]
        rfl
      have hlen : (xs.take (k + 1)).length = (xs.take k).length + 1 := by have := HM.out; simp; omega
      have hkl : (xs.take k).length ≤ m := by have := HM.out; simp; omega
      have HST := hid hstep
      have HLN := hid hlen
      have hrow := HR.out
      clear hu hstep hlen HR
      obtain ⟨x1, x2, x3, x4, x5, x6, dp, dl, dc, ⟨x8, x9, x10⟩, x11, ds⟩ := u
      simp only at c0 c1 c2 c3 c4 c5 c6 c7 c8 c9 c10
      go_wp2_with (at_builtin; refine wpList_append_own _ rfl _ _ 39 rfl w.heap.size 9 i0 _ 1 16 Tryz.underlying39 hi hz0 hz1 hz2 rfl (by decide) _ _ _ rfl ((hrow.alloc _).alloc _) ⟨wr.heap.size + 1, 0, none⟩ 1 1 [.string x4] rfl rfl (cells11_new _ _ _ _ (by simp)) ?ho1 ?ho2 ?ho3 ?ho4 ?_; (case ho1 => intro u hu; rw [List.mem_singleton.1 hu]; rfl); (case ho2 => unfold maxLen; omega); (case ho3 => omega); (case ho4 => simp; omega); intro v' w2 hown' hgrow2 hnil2)
      refine ⟨⟨k + 1, by omega, by go_num, ?_, ?_⟩, by simp [intOf]; omega⟩
      · exact ((HB.out.alloc hsz _).alloc (by simp; omega) _).grown hgrow2 (by simp; omega) (fun j hj => (hrow.lt j hj).1)
      · rw [HST.out, HLN.out]
        exact hown'
    · have hkm : m = k := by omega
      subst hkm
      have hrow := HR.out
      rw [List.take_of_length_le (by have := HM.out; omega)] at hrow
      obtain ⟨ts, hts⟩ : ∃ ts, ts = xs.map Dd.text := ⟨_, rfl⟩
      have htl : ts.length = m := by rw [hts]; have := HM.out; simp; omega
      rw [← hts, show xs.length = ts.length by rw [hts]; simp] at hrow
      have hv : ∃ g' n' c', u3 = .slice (some ⟨g', 0, none⟩) n' c' := by
        obtain ⟨_, h2⟩ := hrow
        rcases h2 with ⟨_, h⟩ | ⟨g', cap', cur, he, _⟩
        · omega
        · exact ⟨g', _, cap', he⟩
      obtain ⟨g', n', c', rfl⟩ := hv
      obtain ⟨hHs, hBg, hgl, hn, hcp⟩ := holdsS_of_owns hrow
      subst hn
      obtain ⟨ss, hss⟩ : ∃ ss, ss = (ts.map (·.data.toList)).mergeSort fun x y => decide (x ≤ y) := ⟨_, rfl⟩
      have hsl : ss.length = m := by rw [hss, List.length_mergeSort]; simp; omega
      have K62 := Tryz.slices_Sort_string g' 0 c' (ts.map (·.data.toList)) wr hHs hgl (by simp; omega)
      rw [← hss, List.length_map, htl] at K62
      have HTS := hid hts
      have HSS := hid hss
      have HHS := hid hHs
      have HSL := hid hsl
      clear hts hss hHs hrow HR hsl
      go_wp2_with fail
      refine K62.mono ?_
      rintro e w3 ⟨rfl, n3, os, hw3⟩
      have hH3 : Holds encStr w3 g' 0 ss.toArray := by
        rw [hw3]
        refine holds_grow _ _ _ _ _ _ (by unfold putRow mapBlock; simp [Sort.ahead]; omega) ?_
        exact holds_putRow encStr _ g' 0 _ _ (holds_ahead encStr wr n3 g' 0 _ HHS.out) (by have := HSL.out; simp; omega)
      have hb3 : Below w.heap.size wr w3 := by rw [hw3]; exact below_putRowS wr g' n3 _ os hBg hgl
      have hg3 : g' < w3.heap.size := Nat.lt_of_lt_of_le hgl hb3.size
      have K63 := Tryz.slices_Compact_string g' 0 c' ss w3 hH3 (by have := HSL.out; omega) (by have := HSL.out; omega)
      rw [HSL.out] at K63
      have HB3 := hid hb3
      have HH3 := hid hH3
      clear K62 hw3 hb3 hH3
      go_wp2_with fail
      refine K63.mono ?_
      rintro e w4 ⟨rfl, q, hw4⟩
      have hb4 : Below w.heap.size w3 w4 := by
        have := below_putRowS (B := w.heap.size) w3 g' q (Lib.compact ss ++ List.replicate (m - (Lib.compact ss).length) []).toArray #[] hBg hg3
        rw [grow_empty] at this
        rw [hw4]
        exact this
      have hcl : (Lib.compact ss).length ≤ ss.length := compact_le ss
      have hH4 : Holds encStr w4 g' 0 (Lib.compact ss ++ List.replicate (m - (Lib.compact ss).length) []).toArray := by
        rw [hw4]
        exact holds_putRow encStr _ g' 0 _ _ (holds_ahead encStr w3 q g' 0 _ HH3.out) (by have := HSL.out; simp; omega)
      have hfin : StrsAt w4 (.slice (some ⟨g', 0, none⟩) (Lib.compact ss).length c') (setA (xs.map Dd.text)) := by
        unfold setA
        rw [← HTS.out, ← HSS.out]
        refine ⟨_, c', rfl, .inr ⟨g', rfl, fun t ht => ?_⟩⟩
        have := (hH4 t (by simp; omega)).1
        rw [Nat.zero_add] at this
        rw [this]
        congr 2
        rw [getElem!_pos _ t (by simp; omega), getElem!_pos _ t ht]
        simp [List.getElem_append_left, ht]
      have HF := hid hfin
      have HB4 := hid hb4
      clear hw4 hb4 hH4 hfin K63
      go_wp2
      go_ret
      exact ⟨_, rfl, HF.out, (HB.out.trans HB3.out).trans HB4.out, fun k h => by cases h; exact hBg⟩
end Go.Proofs.YtepnghacjggkkaaGreatDoor
namespace Go.Proofs.YtepnghacjggkkaaGreatDoor
open Go.RowKit Go.Sort Go.Maps
set_option maxRecDepth 100000
set_option linter.unusedSectionVars false
variable [Inhabited ComV] [DecidableEq D3] [Inhabited D3] [Inhabited Dd] [Inhabited Dn] [Inhabited OpV]

structure ValV where
  kind : Int
  text : ByteArray
  n : Int
  set : List (List UInt8)
def sumN (ds : List Dn) : Int := ds.foldl (fun s d => s + d.o.n) 0
def valA (ds : List Dn) : ValV :=
  if ds = [] then ⟨0, ByteArray.empty, 0, []⟩
  else if ds[0]!.o.kind = 1 then ⟨1, ds[ds.length - 1]!.o.text, 0, []⟩
  else if ds[0]!.o.kind = 2 then ⟨2, ByteArray.empty, sumN ds, []⟩
  else ⟨3, ByteArray.empty, 0, setA ((standA ds).map (·.o.text))⟩
def ValAt (w : World) (v : Value) (x : ValV) : Prop := ∃ sv, v = .agg #[.int .i64 x.kind, .string x.text, .int .i64 x.n, sv] ∧ StrsAt w sv x.set
def OfRet (key : ByteArray) (l : List ComV) (w : World) (e : Ending) (w' : World) : Prop :=
  ∃ v ds, e = .returned (.tuple #[v, .nilIface]) ∧ IsOps key l ds ∧ ValAt w' v (valA ds) ∧ Below w.heap.size w w'
theorem strs_nil (w : World) : StrsAt w (.slice none 0 0) [] := ⟨none, 0, rfl, .inl rfl⟩
structure DnOk (d : Dn) : Prop where
  kind : d.o.kind = 1 ∨ d.o.kind = 2 ∨ d.o.kind = 3
  lo : -1099511627776 ≤ d.o.n
  hi : d.o.n ≤ 1099511627776
  dot : wf3 d.dot
  dots : ∀ e ∈ d.o.dots, wf3 e
  few : d.o.dots.length ≤ 60
theorem opOk {o : OpV} {n : Int} (h : opErr o n = 0) : (o.kind = 1 ∨ o.kind = 2 ∨ o.kind = 3) ∧ -1099511627776 ≤ o.n ∧ o.n ≤ 1099511627776 ∧ (∀ e ∈ o.dots, wf3 e) ∧ o.dots.length ≤ 60 := by
  unfold opErr at h
  split at h
  · exact absurd h (by decide)
  · split at h
    · exact absurd h (by decide)
    · split at h
      · exact absurd h (by decide)
      · rename_i hn _ hk
        split at h
        · exact absurd h (by decide)
        · split at h
          · exact absurd h (by decide)
          · rename_i hb
            split at h
            · exact absurd h (by decide)
            · rename_i hd
              have hd' : o.dots.all (dotB n) = true := by simpa using hd
              refine ⟨?_, by omega, by omega, fun e he => ?_, by omega⟩
              · have : kindB o.kind = true := by simpa using hk
                simpa [kindB] using this
              · have := List.all_eq_true.1 hd' e he
                simp only [dotB, Bool.and_eq_true, decide_eq_true_eq] at this
                exact ⟨wf_i64 this.1 (by omega), wf_i64 (by omega) this.2.2.2.1, wf_i64 this.2.2.2.2.1 (by omega)⟩
theorem dnOf_ok {c : ComV} (hc : ComOk c) {o : OpV} (ho : o ∈ c.ops) : DnOk (dnOf c o) := by
  obtain ⟨i, hi, rfl⟩ := List.getElem_of_mem ho
  have he := opErr_of_bad (hc.ops i hi)
  rw [getElem!_pos c.ops i hi] at he
  obtain ⟨h1, h2, h3, h4, h5⟩ := opOk he
  have hat := at_of_opErr he
  have hp := hc.lo
  have hp2 := hc.hi
  have h6 := (chk_zero.1 hc.chk).2.1
  have ht := (chk_zero.1 hc.chk).2.2 c.place.toNat (by omega)
  exact ⟨h1, h2, h3, ⟨wf_i64 hp (by show c.place ≤ _; omega), wf_i64 ht.1 ht.2, wf_i64 hat.1 (by show c.ops[i].at_ ≤ _; omega)⟩, h4, h5⟩
theorem onceA_mem (l : List ComV) : ∀ d ∈ onceA l, ∃ c ∈ l, ∃ o ∈ c.ops, d = dnOf c o := by
  have h1 : ∀ (ds acc : List Dn) (d : Dn), d ∈ ds.foldl addDn acc → d ∈ acc ∨ d ∈ ds := by
    intro ds
    induction ds with
    | nil => intro acc d h; exact .inl h
    | cons x r ih =>
      intro acc d h
      rcases ih _ d h with h | h
      · unfold addDn at h
        split at h
        · exact .inl h
        · rcases List.mem_append.1 h with h | h
          · exact .inl h
          · rw [List.mem_singleton.1 h]; exact .inr (List.mem_cons_self ..)
      · exact .inr (List.mem_cons_of_mem _ h)
  have h2 : ∀ (l : List ComV) (acc : List Dn) (d : Dn), d ∈ l.foldl addCom acc → d ∈ acc ∨ ∃ c ∈ l, ∃ o ∈ c.ops, d = dnOf c o := by
    intro l
    induction l with
    | nil => intro acc d h; exact .inl h
    | cons c r ih =>
      intro acc d h
      rcases ih _ d h with h | ⟨c', hc', h⟩
      · rcases h1 _ _ d h with h | h
        · exact .inl h
        · obtain ⟨o, ho, rfl⟩ := List.mem_map.1 h
          exact .inr ⟨c, List.mem_cons_self .., o, ho, rfl⟩
      · exact .inr ⟨c', List.mem_cons_of_mem _ hc', h⟩
  intro d hd
  rcases h2 l [] d hd with h | h
  · simp at h
  · exact h
theorem isOps_mem {key : ByteArray} {l : List ComV} {ds : List Dn} (h : IsOps key l ds) : ∀ d ∈ ds, d ∈ onceA l := by
  obtain ⟨ys, ⟨hp, _⟩, rfl⟩ := h
  intro d hd
  have := (List.mem_filter.1 hd).1
  exact (List.mem_filter.1 (hp.mem_iff.1 this)).1
theorem isOps_ok {key : ByteArray} {l : List ComV} {ds : List Dn} (h : IsOps key l ds) (hl : ∀ i, i < l.length → listBad l i = 0) : ∀ d ∈ ds, DnOk d := by
  intro d hd
  obtain ⟨c, hc, o, ho, rfl⟩ := onceA_mem l d (isOps_mem h d hd)
  obtain ⟨i, hi, rfl⟩ := List.getElem_of_mem hc
  refine dnOf_ok (comOk_of ?_) ho
  have := hl i hi
  unfold listBad at this
  rw [getElem!_pos l i hi] at this
  split at this
  · rename_i h; exact absurd this h
  · rename_i h; simpa using h
theorem isOps_len {key : ByteArray} {l : List ComV} {ds : List Dn} (h : IsOps key l ds) (hl : ∀ c ∈ l, c.ops.length ≤ 12) : ds.length ≤ 12 * l.length := by
  obtain ⟨ys, ⟨hp, _⟩, rfl⟩ := h
  have h1 := onceA_len l hl
  have h2 := hp.length_eq
  have h3 := List.length_filter_le (fun x => decide (x.o.key = key)) (onceA l)
  have h4 := List.length_filter_le (fun x => decide (x.o.kind = ys[0]!.o.kind)) ys
  unfold ofKind
  omega
end Go.Proofs.YtepnghacjggkkaaGreatDoor
namespace Go.Proofs.YtepnghacjggkkaaGreatDoor
open Go.RowKit
set_option linter.unusedSectionVars false
variable [Inhabited ComV] [DecidableEq D3] [Inhabited D3] [Inhabited Dd] [Inhabited Dn] [Inhabited OpV]

def flatA (l : List ComV) : List Dn := l.flatMap fun c => c.ops.map (dnOf c)
theorem foldl_addCom (l : List ComV) : ∀ acc, l.foldl addCom acc = (flatA l).foldl addDn acc := by
  induction l with
  | nil => intro acc; rfl
  | cons c r ih =>
    intro acc
    have e : flatA (c :: r) = c.ops.map (dnOf c) ++ flatA r := rfl
    rw [e, List.foldl_append, List.foldl_cons, ih]
    rfl
theorem onceA_flat (l : List ComV) : onceA l = (flatA l).foldl addDn [] := foldl_addCom l []
theorem mem_addDn {acc : List Dn} {d x : Dn} (h : x ∈ addDn acc d) : x ∈ acc ∨ x = d := by
  unfold addDn at h
  split at h
  · exact .inl h
  · rcases List.mem_append.1 h with h | h
    · exact .inl h
    · exact .inr (List.mem_singleton.1 h)
theorem mem_addDn_left {acc : List Dn} {x : Dn} (h : x ∈ acc) (d : Dn) : x ∈ addDn acc d := by
  unfold addDn
  split
  · exact h
  · exact List.mem_append_left _ h
theorem foldl_addDn_left (ds : List Dn) : ∀ {acc : List Dn} {x : Dn}, x ∈ acc → x ∈ ds.foldl addDn acc := by
  induction ds with
  | nil => intro acc x h; exact h
  | cons d r ih => intro acc x h; exact ih (mem_addDn_left h d)
theorem foldl_addDn_mem (ds : List Dn) : ∀ {acc : List Dn} {x : Dn}, x ∈ ds.foldl addDn acc → x ∈ acc ∨ x ∈ ds := by
  induction ds with
  | nil => intro acc x h; exact .inl h
  | cons d r ih =>
    intro acc x h
    rcases ih h with h | h
    · rcases mem_addDn h with h | h
      · exact .inl h
      · exact .inr (by rw [h]; exact List.mem_cons_self ..)
    · exact .inr (List.mem_cons_of_mem _ h)
theorem addDn_dot (acc : List Dn) (d : Dn) : ∃ e ∈ addDn acc d, e.dot = d.dot := by
  unfold addDn
  split
  · rename_i h
    obtain ⟨x, hx, he⟩ := List.any_eq_true.1 h
    exact ⟨x, hx, of_decide_eq_true he⟩
  · exact ⟨d, List.mem_append_right _ (List.mem_singleton.2 rfl), rfl⟩
theorem foldl_addDn_dot (ds : List Dn) : ∀ {acc : List Dn} {d : Dn}, d ∈ ds → ∃ e ∈ ds.foldl addDn acc, e.dot = d.dot := by
  induction ds with
  | nil => intro acc d h; simp at h
  | cons x r ih =>
    intro acc d h
    rcases List.mem_cons.1 h with rfl | h
    · obtain ⟨e, he, hd⟩ := addDn_dot acc d
      exact ⟨e, foldl_addDn_left r he, hd⟩
    · exact ih h
def OneDot (l : List ComV) : Prop := ∀ a ∈ flatA l, ∀ b ∈ flatA l, a.dot = b.dot → a = b
theorem mem_onceA {l : List ComV} (h : OneDot l) (d : Dn) : d ∈ onceA l ↔ d ∈ flatA l := by
  rw [onceA_flat]
  constructor
  · intro hd
    rcases foldl_addDn_mem _ hd with h | h
    · simp at h
    · exact h
  · intro hd
    obtain ⟨e, he, hde⟩ := foldl_addDn_dot (flatA l) (acc := []) hd
    rcases foldl_addDn_mem _ he with h' | h'
    · simp at h'
    · rw [← h e h' d hd hde]
      exact he
theorem onceA_distinct (l : List ComV) : (onceA l).Pairwise (· ≠ ·) := by
  have := onceA_nodup l
  rw [List.Nodup, List.pairwise_map] at this
  exact this.imp fun h e => h (by rw [e])
theorem opBad_part {n : Int} {os : List OpV} {s m i : Nat} (h : ∀ i, i < os.length → opBad n os i = 0) (hi : i < ((os.drop s).take m).length) : opBad n ((os.drop s).take m) i = 0 := by
  have hl : ((os.drop s).take m).length ≤ os.length - s := by simp; omega
  have g : ∀ j, j < ((os.drop s).take m).length → ((os.drop s).take m)[j]! = os[s + j]! := fun j hj => by
    rw [getElem!_pos _ j hj, getElem!_pos os (s + j) (by omega), List.getElem_take, List.getElem_drop]
  have hb := h (s + i) (by omega)
  have he := opErr_of_bad hb
  unfold opBad at hb ⊢
  rw [if_neg (by rw [he]; decide)] at hb
  rw [g i hi, if_neg (by rw [he]; decide)]
  split
  · rename_i hc
    rw [if_pos ⟨by omega, by rw [show s + i - 1 = s + (i - 1) by omega, ← g (i - 1) (by omega)]; exact hc.2⟩] at hb
    exact absurd hb (by decide)
  · rfl
theorem comErr_of {c : ComV} (h : ComOk c) : (comErr c).1 = 0 := by
  have h1 := h.lo
  have h2 := h.hi
  have h3 := h.time
  have h4 := h.few
  unfold comErr
  rw [if_neg (by rw [h.chk]; decide), if_neg (by omega), if_neg h.some_, scan_none h.ops]
theorem flat_mem {l : List ComV} {d : Dn} : d ∈ flatA l ↔ ∃ c ∈ l, d ∈ c.ops.map (dnOf c) := List.mem_flatMap
theorem listOk_of {l : List ComV} {n : Nat} (h1 : ∀ c ∈ l, ComOk c) (h2 : ∀ c ∈ l, c.when_.length = n) : ∀ i, i < l.length → listBad l i = 0 := by
  intro i hi
  unfold listBad
  have e : ∀ j, j < l.length → l[j]! ∈ l := fun j hj => by rw [getElem!_pos l j hj]; exact List.getElem_mem _
  rw [if_neg (by rw [comErr_of (h1 _ (e i hi))]; decide), if_neg (by rw [h2 _ (e i hi), h2 _ (e 0 (by omega))]; exact fun h => h rfl)]
end Go.Proofs.YtepnghacjggkkaaGreatDoor
namespace Go.Proofs.YtepnghacjggkkaaGreatDoor
open Go.RowKit
set_option linter.unusedSectionVars false
variable [Inhabited ComV] [DecidableEq D3] [Inhabited D3] [Inhabited Dd] [Inhabited Dn] [Inhabited OpV]

theorem ltN_total {x y : Dn} (h1 : ltN x y = false) (h2 : ltN y x = false) : x.dot = y.dot := by
  obtain ⟨_, ⟨p, t, a⟩, wx⟩ := x
  obtain ⟨_, ⟨p', t', a'⟩, wy⟩ := y
  simp only [ltN, ltD, decide_eq_false_iff_not, decide_eq_true_eq] at h1 h2
  simp only [D3.mk.injEq]
  omega
theorem pairwise_ne {l : List Dn} (h : l.Pairwise (fun x y => x.dot ≠ y.dot)) {x y : Dn} (hx : x ∈ l) (hy : y ∈ l) (hne : x ≠ y) : x.dot ≠ y.dot := by
  induction h with
  | nil => simp at hx
  | cons h1 _ ih =>
    rcases List.mem_cons.1 hx with rfl | hx'
    · rcases List.mem_cons.1 hy with rfl | hy'
      · exact absurd rfl hne
      · exact h1 _ hy'
    · rcases List.mem_cons.1 hy with rfl | hy'
      · exact (h1 _ hx').symm
      · exact ih hx' hy'
theorem inOrder_unique {key : ByteArray} {l : List ComV} {a b : List Dn} (ha : InOrder key l a) (hb : InOrder key l b) : a = b := by
  have hnd : ((onceA l).filter fun x => decide (x.o.key = key)).Pairwise (fun x y => x.dot ≠ y.dot) := by
    have := onceA_nodup l
    rw [List.Nodup, List.pairwise_map] at this
    exact this.filter _
  have hp := ha.1.trans hb.1.symm
  have hda : a.Pairwise (fun x y => x.dot ≠ y.dot) := hnd.perm ha.1.symm (fun h e => h e.symm)
  refine hp.eq_of_pairwise ?_ ha.2 hb.2
  intro x y hx hy h1 h2
  have e := ltN_total h2 h1
  by_cases hne : x = y
  · exact hne
  · exact absurd e (pairwise_ne hda hx (hp.mem_iff.2 hy) hne)
theorem isOps_eq {key : ByteArray} {l : List ComV} {ds ys : List Dn} (h : IsOps key l ds) (hy : InOrder key l ys) : ds = ofKind ys := by
  obtain ⟨zs, hz, rfl⟩ := h
  rw [inOrder_unique hz hy]
theorem perm_of_mem {α : Type} : ∀ {a b : List α}, a.Pairwise (· ≠ ·) → b.Pairwise (· ≠ ·) → (∀ x, x ∈ a ↔ x ∈ b) → a.Perm b
  | [], b, _, _, h => by
    have : b = [] := List.eq_nil_iff_forall_not_mem.2 fun x hx => by simpa using (h x).2 hx
    rw [this]
  | x :: a, b, ha, hb, h => by
    obtain ⟨b1, b2, rfl⟩ := List.append_of_mem ((h x).1 (List.mem_cons_self ..))
    have hp : (b1 ++ x :: b2).Perm (x :: (b1 ++ b2)) := List.perm_middle
    have hb' := hb.perm hp (fun h => Ne.symm h)
    refine (List.Perm.cons x (perm_of_mem (List.pairwise_cons.1 ha).2 (List.pairwise_cons.1 hb').2 fun y => ?_)).trans hp.symm
    have h1 := (h y).trans hp.mem_iff
    rw [List.mem_cons, List.mem_cons] at h1
    have hxa : x ∉ a := fun hx => (List.pairwise_cons.1 ha).1 x hx rfl
    have hxb : x ∉ b1 ++ b2 := fun hx => (List.pairwise_cons.1 hb').1 x hx rfl
    constructor
    · intro hy
      rcases h1.1 (.inr hy) with rfl | h2
      · exact absurd hy hxa
      · exact h2
    · intro hy
      rcases h1.2 (.inr hy) with rfl | h2
      · exact absurd hy hxb
      · exact h2
theorem mem_compactUpTo {α : Type} [Inhabited α] [DecidableEq α] (d : Array α) (x : α) : ∀ m, x ∈ Lib.compactUpTo d m ↔ ∃ j, j < m ∧ d[j]! = x := by
  intro m
  induction m with
  | zero => simp [Lib.compactUpTo]
  | succ m ih =>
    rw [Lib.compactUpTo_succ, List.mem_append, ih]
    constructor
    · rintro (⟨j, h1, h2⟩ | h)
      · exact ⟨j, by omega, h2⟩
      · split at h
        · exact ⟨m, by omega, (List.mem_singleton.1 h).symm⟩
        · simp at h
    · rintro ⟨j, h1, h2⟩
      rcases Nat.lt_or_ge j m with h | h
      · exact .inl ⟨j, h, h2⟩
      · obtain rfl : j = m := by omega
        by_cases hk : Lib.keeps d j = true
        · exact .inr (by rw [if_pos hk]; exact List.mem_singleton.2 h2.symm)
        · have hj : j ≠ 0 := fun e => hk (by subst e; exact Lib.keeps_lt_one d 0 (by decide))
          have he : d[j]! = d[j - 1]! := by
            rcases Decidable.em (d[j]! = d[j - 1]!) with h | h
            · exact h
            · exact absurd (Lib.keeps_pos h) hk
          exact .inl ⟨j - 1, by omega, by rw [← he]; exact h2⟩
theorem mem_compact {α : Type} [Inhabited α] [DecidableEq α] (l : List α) (x : α) : x ∈ Lib.compact l ↔ x ∈ l := by
  unfold Lib.compact
  rw [mem_compactUpTo]
  constructor
  · rintro ⟨j, h1, h2⟩
    rw [getElem!_pos l.toArray j (by simpa using h1)] at h2
    rw [← h2]
    simp
  · intro h
    obtain ⟨j, h1, h2⟩ := List.getElem_of_mem h
    exact ⟨j, h1, by rw [getElem!_pos l.toArray j (by simpa using h1)]; simpa using h2⟩
theorem mem_setA (ts : List ByteArray) (t : ByteArray) : t.data.toList ∈ setA ts ↔ t ∈ ts := by
  unfold setA
  rw [mem_compact, List.mem_mergeSort]
  constructor
  · intro h
    obtain ⟨s, hs, he⟩ := List.mem_map.1 h
    rwa [← WideShapes.bytes_inj he]
  · exact fun h => List.mem_map.2 ⟨t, h, rfl⟩
theorem addStep_other (ds : List Dn) : ∀ (M : D3 → Option ByteArray) (d : D3), (∀ z ∈ ds, z.dot ≠ d) → (ds.foldl addStep M) d = M d := by
  induction ds with
  | nil => intro M d _; rfl
  | cons y r ih =>
    intro M d h
    rw [List.foldl_cons, ih _ d (fun z hz => h z (List.mem_cons_of_mem _ hz))]
    unfold addStep
    split
    · rfl
    · unfold upd
      rw [if_neg (fun e => h y (List.mem_cons_self ..) e.symm)]
theorem addStep_at (ds : List Dn) (hd : ds.Pairwise (fun x y => x.dot ≠ y.dot)) : ∀ (M : D3 → Option ByteArray), ∀ x ∈ ds, (ds.foldl addStep M) x.dot = if x.o.rem = true then M x.dot else some x.o.text := by
  induction ds with
  | nil => intro M x hx; simp at hx
  | cons y r ih =>
    intro M x hx
    have hd' := List.pairwise_cons.1 hd
    rw [List.foldl_cons]
    rcases List.mem_cons.1 hx with rfl | hx
    · rw [addStep_other r _ _ (fun z hz => (hd'.1 z hz).symm)]
      unfold addStep
      split
      · rfl
      · unfold upd
        rw [if_pos rfl]
    · rw [ih hd'.2 _ x hx]
      split
      · unfold addStep
        split
        · rfl
        · unfold upd
          rw [if_neg (hd'.1 x hx).symm]
      · rfl
theorem delFold (t : ByteArray) (ds : List D3) : ∀ (M : D3 → Option ByteArray) (d : D3), (ds.foldl (delStep t) M) d = if d ∈ ds ∧ (M d).getD ByteArray.empty = t then none else M d := by
  induction ds with
  | nil => intro M d; simp
  | cons e r ih =>
    intro M d
    rw [List.foldl_cons, ih]
    by_cases he : d = e
    · subst he
      by_cases ht : (M d).getD ByteArray.empty = t
      · have h1 : delStep t M d d = none := by
          unfold delStep
          rw [if_pos ht]
          unfold upd
          rw [if_pos rfl]
        rw [h1]
        rw [if_pos (c := d ∈ d :: r ∧ (M d).getD ByteArray.empty = t) ⟨List.mem_cons_self .., ht⟩]
        split <;> rfl
      · have h1 : delStep t M d d = M d := by
          unfold delStep
          rw [if_neg ht]
        rw [h1, if_neg (fun h => ht h.2), if_neg (fun h => ht h.2)]
    · have h1 : delStep t M e d = M d := by
        unfold delStep
        split
        · unfold upd
          rw [if_neg he]
        · rfl
      rw [h1]
      have : d ∈ e :: r ↔ d ∈ r := by rw [List.mem_cons]; exact ⟨fun h => h.resolve_left he, .inr⟩
      simp only [this]
theorem remFold (ds : List Dn) : ∀ (M : D3 → Option ByteArray) (d : D3), (ds.foldl remStep M) d = if ∃ y ∈ ds, d ∈ y.o.dots ∧ (M d).getD ByteArray.empty = y.o.text then none else M d := by
  induction ds with
  | nil => intro M d; simp
  | cons y r ih =>
    intro M d
    rw [List.foldl_cons, ih]
    have h1 : remStep M y d = if d ∈ y.o.dots ∧ (M d).getD ByteArray.empty = y.o.text then none else M d := delFold _ _ _ _
    by_cases hy : d ∈ y.o.dots ∧ (M d).getD ByteArray.empty = y.o.text
    · rw [h1, if_pos hy, if_pos (c := ∃ z ∈ y :: r, d ∈ z.o.dots ∧ (M d).getD ByteArray.empty = z.o.text) ⟨y, List.mem_cons_self .., hy⟩]
      split <;> rfl
    · rw [h1, if_neg hy]
      by_cases hr : ∃ z ∈ r, d ∈ z.o.dots ∧ (M d).getD ByteArray.empty = z.o.text
      · obtain ⟨z, hz, h⟩ := hr
        rw [if_pos ⟨z, hz, h⟩, if_pos ⟨z, List.mem_cons_of_mem _ hz, h⟩]
      · rw [if_neg hr, if_neg (fun ⟨z, hz, h⟩ => by
          rcases List.mem_cons.1 hz with rfl | hz
          · exact hy h
          · exact hr ⟨z, hz, h⟩)]
def liveB (ds : List Dn) (x : Dn) : Bool := !x.o.rem && !(ds.any fun y => y.o.rem && (decide (y.o.text = x.o.text) && decide (x.dot ∈ y.o.dots)))
theorem live_final {ds : List Dn} (hd : ds.Pairwise (fun x y => x.dot ≠ y.dot)) (hr : ∀ y ∈ ds, y.o.rem = false → y.o.dots = []) : ∀ x ∈ ds, (finalMap ds x.dot).isSome = liveB ds x := by
  intro x hx
  unfold finalMap liveB
  rw [remFold, addStep_at ds hd _ x hx]
  cases hrem : x.o.rem with
  | true => simp
  | false =>
    simp only [Bool.false_eq_true, if_false, Option.getD_some]
    by_cases hy : ∃ y ∈ ds, x.dot ∈ y.o.dots ∧ x.o.text = y.o.text
    · rw [if_pos hy]
      obtain ⟨y, hym, h1, h2⟩ := hy
      have hyr : y.o.rem = true := by
        cases h : y.o.rem with
        | true => rfl
        | false => rw [hr y hym h] at h1; simp at h1
      have : (ds.any fun y => y.o.rem && (decide (y.o.text = x.o.text) && decide (x.dot ∈ y.o.dots))) = true := List.any_eq_true.2 ⟨y, hym, by simp [hyr, h2, h1]⟩
      rw [this]
      rfl
    · rw [if_neg hy]
      have : (ds.any fun y => y.o.rem && (decide (y.o.text = x.o.text) && decide (x.dot ∈ y.o.dots))) = false := List.any_eq_false.2 fun y hym h => hy ⟨y, hym, by
        simp only [Bool.and_eq_true, decide_eq_true_eq] at h
        exact ⟨h.2.2, h.2.1.symm⟩⟩
      rw [this]
      rfl
abbrev Tx := List UInt8
def Rise (l : List Tx) : Prop := l.Pairwise (· < ·)
theorem rise_unique {a b : List Tx} (ha : Rise a) (hb : Rise b) (h : ∀ x, x ∈ a ↔ x ∈ b) : a = b := by
  have ne : ∀ {l : List Tx}, Rise l → l.Pairwise (· ≠ ·) := fun h => List.Pairwise.imp (fun {x y} (hx : x < y) (e : x = y) => List.lt_irrefl y (by rw [e] at hx; exact hx)) h
  have hp : a.Perm b := perm_of_mem (ne ha) (ne hb) h
  exact hp.eq_of_pairwise (fun x y _ _ h1 h2 => absurd h2 (List.lt_asymm h1)) ha hb
theorem sort_le (l : List Tx) : (l.mergeSort fun x y => decide (x ≤ y)).Pairwise (fun a b => a ≤ b) :=
  (List.pairwise_mergeSort (fun a b c h g => by simp at *; exact List.le_trans h g) (fun a b => by simpa using List.le_total a b) l).imp fun h => of_decide_eq_true h
theorem compactUpTo_rise (l : List Tx) (h : l.Pairwise (fun a b => a ≤ b)) : ∀ m, m ≤ l.length → Rise (Lib.compactUpTo l.toArray m) := by
  have hle : ∀ i j, i ≤ j → j < l.length → l.toArray[i]! ≤ l.toArray[j]! := fun i j hij hj => by
    rcases Nat.lt_or_ge i j with h1 | h1
    · have := List.pairwise_iff_getElem.1 h i j (by omega) hj h1
      rw [getElem!_pos l.toArray i (by simp; omega), getElem!_pos l.toArray j (by simpa using hj)]
      simpa using this
    · obtain rfl : i = j := by omega
      exact List.le_refl _
  intro m
  induction m with
  | zero => intro _; simp [Lib.compactUpTo, Rise]
  | succ m ih =>
    intro hm
    rw [Lib.compactUpTo_succ]
    unfold Rise
    rw [List.pairwise_append]
    refine ⟨ih (by omega), ?_, fun a ha b hb => ?_⟩
    · split <;> simp
    · split at hb
      · rename_i hk
        obtain rfl := List.mem_singleton.1 hb
        obtain ⟨j, hj, rfl⟩ := (mem_compactUpTo _ _ _).1 ha
        have hm0 : m ≠ 0 := by omega
        have hne : l.toArray[m]! ≠ l.toArray[m - 1]! := by
          unfold Lib.keeps at hk
          have := of_decide_eq_true hk
          exact this.resolve_left hm0
        have h1 := hle j (m - 1) (by omega) (by omega)
        have h2 := hle (m - 1) m (by omega) (by omega)
        rcases List.le_iff_lt_or_eq.1 h2 with h3 | h3
        · exact List.lt_of_le_of_lt h1 h3
        · exact absurd h3.symm hne
      · simp at hb
theorem setA_rise (ts : List ByteArray) : Rise (setA ts) := compactUpTo_rise _ (sort_le _) _ (Nat.le_refl _)
theorem op_rem {o : OpV} {n : Int} (h : opErr o n = 0) (hr : o.rem = false) : o.dots = [] := by
  have hf : foreignB o = false := by
    cases hb : foreignB o with
    | false => rfl
    | true =>
      exfalso
      unfold opErr at h
      rw [hb] at h
      split at h
      · exact absurd h (by decide)
      · split at h
        · exact absurd h (by decide)
        · split at h
          · exact absurd h (by decide)
          · rw [if_pos rfl] at h; exact absurd h (by decide)
  have hz : decide (0 < o.dots.length) = false := by
    unfold foreignB at hf
    split at hf
    · simp only [Bool.or_eq_false_iff] at hf; exact hf.2.2
    · split at hf
      · simp only [Bool.or_eq_false_iff] at hf; exact hf.2.2
      · simp only [Bool.or_eq_false_iff, hr, Bool.not_false, Bool.true_and] at hf; exact hf.2
  exact List.eq_nil_of_length_eq_zero (by have := of_decide_eq_false hz; omega)
def dotsUp (text : ByteArray) (ds : List Dn) : List D3 := ((standA ds).filter fun x => decide (x.o.text = text)).map (·.dot)
def IsDots (text : ByteArray) (ds : List Dn) (out : List D3) : Prop :=
  (ds = [] ∨ ds[0]!.o.kind ≠ 3) ∧ out = [] ∨ (ds ≠ [] ∧ ds[0]!.o.kind = 3) ∧ out.Perm (dotsUp text ds) ∧ out.Pairwise (fun a b => ltD b a = false)
end Go.Proofs.YtepnghacjggkkaaGreatDoor
