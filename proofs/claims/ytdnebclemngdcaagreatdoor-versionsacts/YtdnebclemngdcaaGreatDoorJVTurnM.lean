/- texts by its contract; Of by its contract, where nothing is wrong; Commits in another order, in parts, some twice: what once makes of them: plain mathematics. -/
import Derived.Test.YtdnebclemngdcaaGreatDoorJVStand
import Derived.Test.YtdnebclemngdcaaGreatDoorJVLayT
namespace Go.Proofs.YtdnebclemngdcaaGreatDoor
open Go.RowKit Go.Sort Go.Maps
set_option maxRecDepth 100000
set_option linter.unusedSectionVars false
variable [Inhabited ComV] [DecidableEq D3] [Inhabited D3] [Inhabited Dd] [Inhabited Dn] [Inhabited OpV]

def setA (ts : List ByteArray) : List (List UInt8) := Lib.compact ((ts.map (·.data.toList)).mergeSort fun x y => decide (x ≤ y))
def StrsAt (w : World) (v : Value) (ss : List (List UInt8)) : Prop :=
  ∃ ad cap, v = .slice ad ss.length cap ∧ (ss = [] ∨ ∃ b, ad = some ⟨b, 0, none⟩ ∧ ∀ t, t < ss.length → w.cell? ⟨b, t, none⟩ = some (encStr ss[t]!))
theorem setA_nil : setA [] = [] := by
  unfold setA; simp [Lib.compact, Lib.compactUpTo]
theorem Tryz.info9 : (Tryz.prog.info? 9).map (fun i => (i.zero, i.size, i.bytes)) = some (some (.string ByteArray.empty), 1, 16) := by kernel_rfl
theorem encStr_data (s : ByteArray) : encStr s.data.toList = .string s := by
  unfold encStr; simp
theorem below_putRowS {B : Nat} (w : World) (g n : Nat) (d : Array (List UInt8)) (os : Array Obj) (hB : B ≤ g) (hg : g < w.heap.size) : Below B w (grow (putRow encStr (Sort.ahead w n) g 0 d) os) := by
  refine ⟨rfl, rfl, rfl, by unfold putRow mapBlock; simp [Sort.ahead]; try omega, fun i hi => ?_⟩; rw [heap_grow_old _ _ (by unfold putRow mapBlock; simp [Sort.ahead]; omega)]; unfold putRow mapBlock; simp only [Sort.ahead]; simp [Array.getElem?_modify, show g ≠ i by omega]
theorem holdsS_of_owns {w : World} {base g n cap : Nat} {ts : List ByteArray} (h : w.ownsRow base 9 1 (.slice (some ⟨g, 0, none⟩) n cap) ts.length (ts.map Value.string)) : Holds encStr w g 0 (ts.map (·.data.toList)).toArray ∧ base ≤ g ∧ g < w.heap.size ∧ n = ts.length ∧ ts.length ≤ cap := by
  obtain ⟨_, h2⟩ := h; rcases h2 with ⟨h, _⟩ | ⟨g', cap', cur, he, hb, hh, hn, hm, hs, ht⟩
  · cases h
  · cases he; refine ⟨fun j hj => ?_, hb, (Array.getElem?_eq_some_iff.1 hh).1, rfl, hn⟩; have hj' : j < ts.length := by simpa using hj
    have e : cur[j]? = some (.string ts[j]) := by
      have h1 : (cur.toList.take (ts.length * 1))[j]? = (ts.map Value.string)[j]? := by rw [ht]
      rw [List.getElem?_take, if_pos (by omega), Array.getElem?_toList] at h1; rw [h1, List.getElem?_map, List.getElem?_eq_getElem hj']; rfl
    refine ⟨?_, ?_⟩
    · simp only [World.cell?, hh, Nat.zero_add]; rw [e]; have : (ts.map (·.data.toList)).toArray[j]! = ts[j].data.toList := by simp [hj']
      rw [this, encStr_data]; simp
    · simp only [World.frozen?, hh]; simp
theorem compact_le (ss : List (List UInt8)) : (Lib.compact ss).length ≤ ss.length := by
  unfold Lib.compact Lib.compactUpTo; rw [List.length_map]; exact Nat.le_trans (List.length_filter_le _ _) (by simp)
def TextsRet (ts : List ByteArray) (w : World) (e : Ending) (w' : World) : Prop := ∃ v, e = .returned v ∧ StrsAt w' v (setA ts) ∧ Below w.heap.size w w' ∧ ∀ k, v.ownBlock = some k → w.heap.size ≤ k
theorem StrsAt.keep {w w' : World} {v : Value} {ss : List (List UInt8)} (h : StrsAt w v ss) (hk : ∀ k, v.ownBlock = some k → ∀ o, w'.cell? ⟨k, o, none⟩ = w.cell? ⟨k, o, none⟩) : StrsAt w' v ss := by
  obtain ⟨ad, cap, rfl, h⟩ := h; refine ⟨ad, cap, rfl, ?_⟩; rcases h with h | ⟨b, rfl, h⟩
  · exact .inl h
  · exact .inr ⟨b, rfl, fun t ht => by rw [hk b rfl t]; exact h t ht⟩

theorem texts_zero (w : World) (p : Option Addr) (c : Nat) : Calls Tryz.prog 77 #[.slice p 0 c] w fun e w' => TextsRet [] w e w' := by
  go_enter Tryz.func77, Tryz.ntmps77; go_wp2; refine wp_loop_rounds 1 ?_; rw [rounds_succ]
  go_wp2_with (first | (go_at_call 84; refine (Tryz.slices_Sort_string_none _ _ _).mono ?_; rintro e w' ⟨rfl, rfl⟩) | (go_at_call 116; refine (Tryz.slices_Compact_string_empty _ _ _).mono ?_; rintro e w' ⟨rfl, rfl⟩))
  go_ret; exact ⟨_, rfl, ⟨none, 0, by rw [setA_nil]; rfl, .inl setA_nil⟩, Below.refl _ _, fun k h => by cases h⟩

theorem texts_none (w : World) : Calls Tryz.prog 77 #[.slice none 0 0] w fun e w' => TextsRet [] w e w' := texts_zero w none 0

set_option maxHeartbeats 800000 in
theorem texts_n (w : World) (g m cap : Nat) (xs : List Dd) (hm : xs.length = m) (h0 : 0 < m) (hl : m ≤ 100000) (hg : g < w.heap.size) (hH : HoldsK Dd.enc 11 w g 0 xs.toArray) :
    Calls Tryz.prog 77 #[.slice (some ⟨g, 0, none⟩) m cap] w fun e w' => TextsRet (xs.map Dd.text) w e w' := by
  obtain ⟨i0, hi, hz0, hz1, hz2⟩ := info_parts Tryz.info9; have HH := hid hH; have HM := hid hm; clear hH hm; go_enter Tryz.func77, Tryz.ntmps77; go_wp2
  go_loopw [3, 8] (fun v i wr => ∃ k : Nat, k ≤ m ∧ i = .int .i64 k ∧ Hid (Below w.heap.size w wr) ∧ Hid (wr.ownsRow w.heap.size 9 1 v (xs.take k).length (((xs.take k).map Dd.text).map Value.string))) (fun _ i _ => m - (intOf i).toNat)
  case atStart => exact ⟨0, Nat.zero_le _, rfl, Below.refl _ _, World.ownsRow_nil _ _ _ _⟩
  case round =>
    obtain ⟨k, hk, rfl, HB, HR⟩ := hrel; have hsz := HB.out.size
    by_cases hlt : k < m
    · obtain ⟨u, hu⟩ : ∃ u, u = xs[k]! := ⟨_, rfl⟩; obtain ⟨c0, c1, c2, c3, c4, c5, c6, c7, c8, c9, c10⟩ := holdsK_cells (holdsK_below HH.out HB.out hg) (j := k) (u := u) (by have := HM.out; simp; omega) (by rw [hu]; have := HM.out; rw [getElem!_pos xs.toArray k (by simp; omega), getElem!_pos xs k (by omega)]; simp)
      have hstep : ((xs.take (k + 1)).map Dd.text).map Value.string = ((xs.take k).map Dd.text).map Value.string ++ [.string u.text] := by
        rw [List.take_succ_eq_append_getElem (by have := HM.out; omega), hu, getElem!_pos xs k (by have := HM.out; omega), List.map_append, List.map_append]; rfl
      have hlen : (xs.take (k + 1)).length = (xs.take k).length + 1 := by have := HM.out; simp; omega
      have hkl : (xs.take k).length ≤ m := by have := HM.out; simp; omega
      have HST := hid hstep; have HLN := hid hlen; have hrow := HR.out; clear hu hstep hlen HR; obtain ⟨x1, x2, x3, x4, x5, x6, dp, dl, dc, ⟨x8, x9, x10⟩, x11, ds⟩ := u; simp only at c0 c1 c2 c3 c4 c5 c6 c7 c8 c9 c10
      go_wp2_with (at_builtin; refine wpList_append_own _ rfl _ _ 39 rfl w.heap.size 9 i0 _ 1 16 Tryz.underlying39 hi hz0 hz1 hz2 rfl (by decide) _ _ _ rfl ((hrow.alloc _).alloc _) ⟨wr.heap.size + 1, 0, none⟩ 1 1 [.string x4] rfl rfl (cells11_new _ _ _ _ (by simp)) ?ho1 ?ho2 ?ho3 ?ho4 ?_; (case ho1 => intro u hu; rw [List.mem_singleton.1 hu]; rfl); (case ho2 => unfold maxLen; omega); (case ho3 => omega); (case ho4 => simp; omega); intro v' w2 hown' hgrow2 hnil2)
      refine ⟨⟨k + 1, by omega, by go_num, ?_, ?_⟩, by simp [intOf]; omega⟩
      · exact ((HB.out.alloc hsz _).alloc (by simp; omega) _).grown hgrow2 (by simp; omega) (fun j hj => (hrow.lt j hj).1)
      · rw [HST.out, HLN.out]; exact hown'
    · have hkm : m = k := by omega
      subst hkm; have hrow := HR.out; rw [List.take_of_length_le (by have := HM.out; omega)] at hrow; obtain ⟨ts, hts⟩ : ∃ ts, ts = xs.map Dd.text := ⟨_, rfl⟩; have htl : ts.length = m := by rw [hts]; have := HM.out; simp; omega
      rw [← hts, show xs.length = ts.length by rw [hts]; simp] at hrow
      have hv : ∃ g' n' c', u3 = .slice (some ⟨g', 0, none⟩) n' c' := by
        obtain ⟨_, h2⟩ := hrow; rcases h2 with ⟨_, h⟩ | ⟨g', cap', cur, he, _⟩
        · omega
        · exact ⟨g', _, cap', he⟩
      obtain ⟨g', n', c', rfl⟩ := hv; obtain ⟨hHs, hBg, hgl, hn, hcp⟩ := holdsS_of_owns hrow; subst hn; obtain ⟨ss, hss⟩ : ∃ ss, ss = (ts.map (·.data.toList)).mergeSort fun x y => decide (x ≤ y) := ⟨_, rfl⟩
      have hsl : ss.length = m := by rw [hss, List.length_mergeSort]; simp; omega
      have K62 := Tryz.slices_Sort_string g' 0 c' (ts.map (·.data.toList)) wr hHs hgl (by simp; omega); rw [← hss, List.length_map, htl] at K62; have HTS := hid hts; have HSS := hid hss; have HHS := hid hHs; have HSL := hid hsl; clear hts hss hHs hrow HR hsl; go_wp2_with fail; refine K62.mono ?_; rintro e w3 ⟨rfl, n3, os, hw3⟩
      have hH3 : Holds encStr w3 g' 0 ss.toArray := by
        rw [hw3]; refine holds_grow _ _ _ _ _ _ (by unfold putRow mapBlock; simp [Sort.ahead]; omega) ?_; exact holds_putRow encStr _ g' 0 _ _ (holds_ahead encStr wr n3 g' 0 _ HHS.out) (by have := HSL.out; simp; omega)
      have hb3 : Below w.heap.size wr w3 := by rw [hw3]; exact below_putRowS wr g' n3 _ os hBg hgl
      have hg3 : g' < w3.heap.size := Nat.lt_of_lt_of_le hgl hb3.size; have K63 := Tryz.slices_Compact_string g' 0 c' ss w3 hH3 (by have := HSL.out; omega) (by have := HSL.out; omega); rw [HSL.out] at K63; have HB3 := hid hb3; have HH3 := hid hH3; clear K62 hw3 hb3 hH3; go_wp2_with fail; refine K63.mono ?_; rintro e w4 ⟨rfl, q, hw4⟩
      have hb4 : Below w.heap.size w3 w4 := by
        have := below_putRowS (B := w.heap.size) w3 g' q (Lib.compact ss ++ List.replicate (m - (Lib.compact ss).length) []).toArray #[] hBg hg3; rw [grow_empty] at this; rw [hw4]; exact this
      have hcl : (Lib.compact ss).length ≤ ss.length := compact_le ss
      have hH4 : Holds encStr w4 g' 0 (Lib.compact ss ++ List.replicate (m - (Lib.compact ss).length) []).toArray := by
        rw [hw4]; exact holds_putRow encStr _ g' 0 _ _ (holds_ahead encStr w3 q g' 0 _ HH3.out) (by have := HSL.out; simp; omega)
      have hfin : StrsAt w4 (.slice (some ⟨g', 0, none⟩) (Lib.compact ss).length c') (setA (xs.map Dd.text)) := by
        unfold setA; rw [← HTS.out, ← HSS.out]; refine ⟨_, c', rfl, .inr ⟨g', rfl, fun t ht => ?_⟩⟩; have := (hH4 t (by simp; omega)).1; rw [Nat.zero_add] at this; rw [this]
        congr 2
        rw [getElem!_pos _ t (by simp; omega), getElem!_pos _ t ht]; simp [List.getElem_append_left, ht]
      have HF := hid hfin; have HB4 := hid hb4; clear hw4 hb4 hH4 hfin K63; go_wp2; go_ret; exact ⟨_, rfl, HF.out, (HB.out.trans HB3.out).trans HB4.out, fun k h => by cases h; exact hBg⟩
end Go.Proofs.YtdnebclemngdcaaGreatDoor
namespace Go.Proofs.YtdnebclemngdcaaGreatDoor
open Go.RowKit Go.Sort Go.Maps
set_option maxRecDepth 100000
set_option linter.unusedSectionVars false
variable [Inhabited ComV] [DecidableEq D3] [Inhabited D3] [Inhabited Dd] [Inhabited Dn] [Inhabited OpV]

structure ValV where
  kind : Int
  text : ByteArray
  n : Int
  set : List (List UInt8)
def sumN (ds : List Dn) : Int := ds.foldl (fun s d => s + d.o.n) 0
def valA (ds : List Dn) : ValV :=
  if ds = [] then ⟨0, ByteArray.empty, 0, []⟩
  else if ds[0]!.o.kind = 1 then ⟨1, ds[ds.length - 1]!.o.text, 0, []⟩
  else if ds[0]!.o.kind = 2 then ⟨2, ByteArray.empty, sumN ds, []⟩
  else ⟨3, ByteArray.empty, 0, setA ((standA ds).map (·.o.text))⟩
def ValAt (w : World) (v : Value) (x : ValV) : Prop := ∃ sv, v = .agg #[.int .i64 x.kind, .string x.text, .int .i64 x.n, sv] ∧ StrsAt w sv x.set
def OfRet (key : ByteArray) (l : List ComV) (w : World) (e : Ending) (w' : World) : Prop :=
  ∃ v ds, e = .returned (.tuple #[v, .nilIface]) ∧ IsOps key l ds ∧ ValAt w' v (valA ds) ∧ Below w.heap.size w w'
theorem strs_nil (w : World) : StrsAt w (.slice none 0 0) [] := ⟨none, 0, rfl, .inl rfl⟩

structure DnOk (d : Dn) : Prop where
  kind : d.o.kind = 1 ∨ d.o.kind = 2 ∨ d.o.kind = 3
  lo : -1099511627776 ≤ d.o.n
  hi : d.o.n ≤ 1099511627776
  dot : wf3 d.dot
  dots : ∀ e ∈ d.o.dots, wf3 e
  few : d.o.dots.length ≤ 60
theorem opOk {o : OpV} {n : Int} (h : opErr o n = 0) : (o.kind = 1 ∨ o.kind = 2 ∨ o.kind = 3) ∧ -1099511627776 ≤ o.n ∧ o.n ≤ 1099511627776 ∧ (∀ e ∈ o.dots, wf3 e) ∧ o.dots.length ≤ 60 := by
  unfold opErr at h
  split at h
  · exact absurd h (by decide)
  · split at h
    · exact absurd h (by decide)
    · split at h
      · exact absurd h (by decide)
      · rename_i hn _ hk
        split at h
        · exact absurd h (by decide)
        · split at h
          · exact absurd h (by decide)
          · rename_i hb
            split at h
            · exact absurd h (by decide)
            · rename_i hd
              have hd' : o.dots.all (dotB n) = true := by simpa using hd
              refine ⟨?_, by omega, by omega, fun e he => ?_, by omega⟩
              · have : kindB o.kind = true := by simpa using hk
                simpa [kindB] using this
              · have := List.all_eq_true.1 hd' e he; simp only [dotB, Bool.and_eq_true, decide_eq_true_eq] at this; exact ⟨wf_i64 this.1 (by omega), wf_i64 (by omega) this.2.2.2.1, wf_i64 this.2.2.2.2.1 (by omega)⟩
theorem dnOf_ok {c : ComV} (hc : ComOk c) {o : OpV} (ho : o ∈ c.ops) : DnOk (dnOf c o) := by
  obtain ⟨i, hi, rfl⟩ := List.getElem_of_mem ho; have he := opErr_of_bad (hc.ops i hi); rw [getElem!_pos c.ops i hi] at he; obtain ⟨h1, h2, h3, h4, h5⟩ := opOk he; have hat := at_of_opErr he; have hp := hc.lo; have hp2 := hc.hi; have h6 := (chk_zero.1 hc.chk).2.1; have ht := (chk_zero.1 hc.chk).2.2 c.place.toNat (by omega); exact ⟨h1, h2, h3, ⟨wf_i64 hp (by show c.place ≤ _; omega), wf_i64 ht.1 ht.2, wf_i64 hat.1 (by show c.ops[i].at_ ≤ _; omega)⟩, h4, h5⟩
theorem onceA_mem (l : List ComV) : ∀ d ∈ onceA l, ∃ c ∈ l, ∃ o ∈ c.ops, d = dnOf c o := by
  have h1 : ∀ (ds acc : List Dn) (d : Dn), d ∈ ds.foldl addDn acc → d ∈ acc ∨ d ∈ ds := by
    intro ds
    induction ds with
    | nil => intro acc d h; exact .inl h
    | cons x r ih =>
      intro acc d h; rcases ih _ d h with h | h
      · unfold addDn at h
        split at h
        · exact .inl h
        · rcases List.mem_append.1 h with h | h
          · exact .inl h
          · rw [List.mem_singleton.1 h]; exact .inr (List.mem_cons_self ..)
      · exact .inr (List.mem_cons_of_mem _ h)
  have h2 : ∀ (l : List ComV) (acc : List Dn) (d : Dn), d ∈ l.foldl addCom acc → d ∈ acc ∨ ∃ c ∈ l, ∃ o ∈ c.ops, d = dnOf c o := by
    intro l
    induction l with
    | nil => intro acc d h; exact .inl h
    | cons c r ih =>
      intro acc d h; rcases ih _ d h with h | ⟨c', hc', h⟩
      · rcases h1 _ _ d h with h | h
        · exact .inl h
        · obtain ⟨o, ho, rfl⟩ := List.mem_map.1 h; exact .inr ⟨c, List.mem_cons_self .., o, ho, rfl⟩
      · exact .inr ⟨c', List.mem_cons_of_mem _ hc', h⟩
  intro d hd; rcases h2 l [] d hd with h | h
  · simp at h
  · exact h
theorem isOps_mem {key : ByteArray} {l : List ComV} {ds : List Dn} (h : IsOps key l ds) : ∀ d ∈ ds, d ∈ onceA l := by
  obtain ⟨ys, ⟨hp, _⟩, rfl⟩ := h; intro d hd; have := (List.mem_filter.1 hd).1; exact (List.mem_filter.1 (hp.mem_iff.1 this)).1
theorem isOps_ok {key : ByteArray} {l : List ComV} {ds : List Dn} (h : IsOps key l ds) (hl : ∀ i, i < l.length → listBad l i = 0) : ∀ d ∈ ds, DnOk d := by
  intro d hd; obtain ⟨c, hc, o, ho, rfl⟩ := onceA_mem l d (isOps_mem h d hd); obtain ⟨i, hi, rfl⟩ := List.getElem_of_mem hc; refine dnOf_ok (comOk_of ?_) ho; have := hl i hi; unfold listBad at this; rw [getElem!_pos l i hi] at this
  split at this
  · rename_i h; exact absurd this h
  · rename_i h; simpa using h
theorem isOps_len {key : ByteArray} {l : List ComV} {ds : List Dn} (h : IsOps key l ds) (hl : ∀ c ∈ l, c.ops.length ≤ 12) : ds.length ≤ 12 * l.length := by
  obtain ⟨ys, ⟨hp, _⟩, rfl⟩ := h; have h1 := onceA_len l hl; have h2 := hp.length_eq; have h3 := List.length_filter_le (fun x => decide (x.o.key = key)) (onceA l); have h4 := List.length_filter_le (fun x => decide (x.o.kind = ys[0]!.o.kind)) ys; unfold ofKind; omega
end Go.Proofs.YtdnebclemngdcaaGreatDoor
namespace Go.Proofs.YtdnebclemngdcaaGreatDoor
open Go.RowKit
set_option linter.unusedSectionVars false
variable [Inhabited ComV] [DecidableEq D3] [Inhabited D3] [Inhabited Dd] [Inhabited Dn] [Inhabited OpV]

def flatA (l : List ComV) : List Dn := l.flatMap fun c => c.ops.map (dnOf c)
theorem foldl_addCom (l : List ComV) : ∀ acc, l.foldl addCom acc = (flatA l).foldl addDn acc := by
  induction l with
  | nil => intro acc; rfl
  | cons c r ih =>
    intro acc; have e : flatA (c :: r) = c.ops.map (dnOf c) ++ flatA r := rfl; rw [e, List.foldl_append, List.foldl_cons, ih]; rfl
theorem onceA_flat (l : List ComV) : onceA l = (flatA l).foldl addDn [] := foldl_addCom l []
theorem perm_of_mem {α : Type} : ∀ {a b : List α}, a.Pairwise (· ≠ ·) → b.Pairwise (· ≠ ·) → (∀ x, x ∈ a ↔ x ∈ b) → a.Perm b
  | [], b, _, _, h => by
    have : b = [] := List.eq_nil_iff_forall_not_mem.2 fun x hx => by simpa using (h x).2 hx
    rw [this]
  | x :: a, b, ha, hb, h => by
    obtain ⟨b1, b2, rfl⟩ := List.append_of_mem ((h x).1 (List.mem_cons_self ..)); have hp : (b1 ++ x :: b2).Perm (x :: (b1 ++ b2)) := List.perm_middle; have hb' := hb.perm hp (fun h => Ne.symm h); refine (List.Perm.cons x (perm_of_mem (List.pairwise_cons.1 ha).2 (List.pairwise_cons.1 hb').2 fun y => ?_)).trans hp.symm; have h1 := (h y).trans hp.mem_iff; rw [List.mem_cons, List.mem_cons] at h1; have hxa : x ∉ a := fun hx => (List.pairwise_cons.1 ha).1 x hx rfl
    have hxb : x ∉ b1 ++ b2 := fun hx => (List.pairwise_cons.1 hb').1 x hx rfl
    constructor
    · intro hy; rcases h1.1 (.inr hy) with rfl | h2
      · exact absurd hy hxa
      · exact h2
    · intro hy; rcases h1.2 (.inr hy) with rfl | h2
      · exact absurd hy hxb
      · exact h2
theorem at_rise {n : Int} {os : List OpV} (h : ∀ i, i < os.length → opBad n os i = 0) : ∀ i j, i < j → j < os.length → os[i]!.at_ < os[j]!.at_ := by
  intro i j hij
  induction j with
  | zero => omega
  | succ j ih =>
    intro hj; have hb := h (j + 1) hj; have he := opErr_of_bad hb; unfold opBad at hb; rw [if_neg (by rw [he]; decide)] at hb
    have hlt : os[j]!.at_ < os[j + 1]!.at_ := by
      by_cases h : os[j]!.at_ < os[j + 1]!.at_
      · exact h
      · rw [if_pos ⟨by omega, by rw [Nat.add_sub_cancel]; omega⟩] at hb; exact absurd hb (by decide)
    rcases Nat.lt_or_ge i j with h | h
    · exact Int.lt_trans (ih h (by omega)) hlt
    · obtain rfl : i = j := by omega
      exact hlt
theorem opBad_part {n : Int} {os : List OpV} {s m i : Nat} (h : ∀ i, i < os.length → opBad n os i = 0) (hi : i < ((os.drop s).take m).length) : opBad n ((os.drop s).take m) i = 0 := by
  have hl : ((os.drop s).take m).length ≤ os.length - s := by simp; omega
  have g : ∀ j, j < ((os.drop s).take m).length → ((os.drop s).take m)[j]! = os[s + j]! := fun j hj => by
    rw [getElem!_pos _ j hj, getElem!_pos os (s + j) (by omega), List.getElem_take, List.getElem_drop]
  have hb := h (s + i) (by omega); have he := opErr_of_bad hb; unfold opBad at hb ⊢; rw [if_neg (by rw [he]; decide)] at hb; rw [g i hi, if_neg (by rw [he]; decide)]
  split
  · rename_i hc
    rw [if_pos ⟨by omega, by rw [show s + i - 1 = s + (i - 1) by omega, ← g (i - 1) (by omega)]; exact hc.2⟩] at hb; exact absurd hb (by decide)
  · rfl
theorem comErr_of {c : ComV} (h : ComOk c) : (comErr c).1 = 0 := by
  have h1 := h.lo; have h2 := h.hi; have h3 := h.time; have h4 := h.few; unfold comErr; rw [if_neg (by rw [h.chk]; decide), if_neg (by omega), if_neg h.some_, scan_none h.ops]
theorem listOk_of {l : List ComV} {n : Nat} (h1 : ∀ c ∈ l, ComOk c) (h2 : ∀ c ∈ l, c.when_.length = n) : ∀ i, i < l.length → listBad l i = 0 := by
  intro i hi; unfold listBad; have e : ∀ j, j < l.length → l[j]! ∈ l := fun j hj => by rw [getElem!_pos l j hj]; exact List.getElem_mem _
  rw [if_neg (by rw [comErr_of (h1 _ (e i hi))]; decide), if_neg (by rw [h2 _ (e i hi), h2 _ (e 0 (by omega))]; exact fun h => h rfl)]
theorem listOk_com {l : List ComV} (h : ∀ i, i < l.length → listBad l i = 0) : (∀ c ∈ l, ComOk c) ∧ ∀ c ∈ l, c.when_.length = l[0]!.when_.length := by
  have g : ∀ c ∈ l, (comErr c).1 = 0 ∧ c.when_.length = l[0]!.when_.length := fun c hc => by
    obtain ⟨i, hi, rfl⟩ := List.getElem_of_mem hc; have := h i hi; unfold listBad at this; rw [getElem!_pos l i hi] at this
    split at this
    · rename_i e; exact absurd this e
    · rename_i e
      split at this
      · exact absurd this (by decide)
      · rename_i e2
        exact ⟨by simpa using e, by simpa using e2⟩
  exact ⟨fun c hc => comOk_of (g c hc).1, fun c hc => (g c hc).2⟩
end Go.Proofs.YtdnebclemngdcaaGreatDoor
