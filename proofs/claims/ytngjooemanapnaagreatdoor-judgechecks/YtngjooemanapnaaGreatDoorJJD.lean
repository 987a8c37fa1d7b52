/- texts by its contract; Of by its contract, where nothing is wrong; vector.checkPair and Within by their contracts; Events as they lie in memory; small calls of judge; Verdicts of judge by their contracts: forward; ofPlaces and its closures by their contracts. -/
import Derived.Test.YtngjooemanapnaaGreatDoorJVLayT
import Derived.Test.YtngjooemanapnaaGreatDoorJVDel
import Derived.Test.YtngjooemanapnaaGreatDoorJVOnce
import Derived.Test.YtngjooemanapnaaGreatDoorJVStandM
import Derived.Test.YtngjooemanapnaaGreatDoorJVSortN
import Derived.Test.YtngjooemanapnaaGreatDoorJVMath
import Derived.Test.YtngjooemanapnaaGreatDoorJVCom2
namespace Go.Proofs.YtngjooemanapnaaGreatDoor
open Go.RowKit Go.Sort Go.Maps
set_option maxRecDepth 100000

/-- The texts, rising, each once. -/
def setA (ts : List ByteArray) : List (List UInt8) := Lib.compact ((ts.map (·.data.toList)).mergeSort fun x y => decide (x ≤ y))
/-- The slice v reads, in the world w, as these texts. -/
def StrsAt (w : World) (v : Value) (ss : List (List UInt8)) : Prop :=
  ∃ ad cap, v = .slice ad ss.length cap ∧ (ss = [] ∨ ∃ b, ad = some ⟨b, 0, none⟩ ∧ ∀ t, t < ss.length → w.cell? ⟨b, t, none⟩ = some (encStr ss[t]!))
theorem setA_nil : setA [] = [] := by
  unfold setA
  simp [Lib.compact, Lib.compactUpTo]
theorem Tryz.info9 : (Tryz.prog.info? 9).map (fun i => (i.zero, i.size, i.bytes)) = some (some (.string ByteArray.empty), 1, 16) := by kernel_rfl
theorem encStr_data (s : ByteArray) : encStr s.data.toList = .string s := by
  unfold encStr
  simp
theorem below_putRowS {B : Nat} (w : World) (g n : Nat) (d : Array (List UInt8)) (os : Array Obj) (hB : B ≤ g) (hg : g < w.heap.size) : Below B w (grow (putRow encStr (Sort.ahead w n) g 0 d) os) := by
  refine ⟨rfl, rfl, rfl, by unfold putRow mapBlock; simp [Sort.ahead]; try omega, fun i hi => ?_⟩
  rw [heap_grow_old _ _ (by unfold putRow mapBlock; simp [Sort.ahead]; omega)]
  unfold putRow mapBlock
  simp only [Sort.ahead]
  simp [Array.getElem?_modify, show g ≠ i by omega]
theorem holdsS_of_owns {w : World} {base g n cap : Nat} {ts : List ByteArray} (h : w.ownsRow base 9 1 (.slice (some ⟨g, 0, none⟩) n cap) ts.length (ts.map Value.string)) : Holds encStr w g 0 (ts.map (·.data.toList)).toArray ∧ base ≤ g ∧ g < w.heap.size ∧ n = ts.length ∧ ts.length ≤ cap := by
  obtain ⟨_, h2⟩ := h
  rcases h2 with ⟨h, _⟩ | ⟨g', cap', cur, he, hb, hh, hn, hm, hs, ht⟩
  · cases h
  · cases he
    refine ⟨fun j hj => ?_, hb, (Array.getElem?_eq_some_iff.1 hh).1, rfl, hn⟩
    have hj' : j < ts.length := by simpa using hj
    have e : cur[j]? = some (.string ts[j]) := by
      have h1 : (cur.toList.take (ts.length * 1))[j]? = (ts.map Value.string)[j]? := by rw [ht]
      rw [List.getElem?_take, if_pos (by omega), Array.getElem?_toList] at h1
      rw [h1, List.getElem?_map, List.getElem?_eq_getElem hj']
      rfl
    refine ⟨?_, ?_⟩
    · simp only [World.cell?, hh, Nat.zero_add]
      rw [e]
      have : (ts.map (·.data.toList)).toArray[j]! = ts[j].data.toList := by simp [hj']
      rw [this, encStr_data]
      simp
    · simp only [World.frozen?, hh]
      simp
theorem compact_le (ss : List (List UInt8)) : (Lib.compact ss).length ≤ ss.length := by
  unfold Lib.compact Lib.compactUpTo
  rw [List.length_map]
  exact Nat.le_trans (List.length_filter_le _ _) (by simp)
/-- What texts hands back. -/
def TextsRet (ts : List ByteArray) (w : World) (e : Ending) (w' : World) : Prop := ∃ v, e = .returned v ∧ StrsAt w' v (setA ts) ∧ Below w.heap.size w w' ∧ ∀ k, v.ownBlock = some k → w.heap.size ≤ k
theorem StrsAt.keep {w w' : World} {v : Value} {ss : List (List UInt8)} (h : StrsAt w v ss) (hk : ∀ k, v.ownBlock = some k → ∀ o, w'.cell? ⟨k, o, none⟩ = w.cell? ⟨k, o, none⟩) : StrsAt w' v ss := by
  obtain ⟨ad, cap, rfl, h⟩ := h
  refine ⟨ad, cap, rfl, ?_⟩
  rcases h with h | ⟨b, rfl, h⟩
  · exact .inl h
  · exact .inr ⟨b, rfl, fun t ht => by rw [hk b rfl t]; exact h t ht⟩
theorem texts_zero (w : World) (p : Option Addr) (c : Nat) : Calls Tryz.prog 92 #[.slice p 0 c] w fun e w' => TextsRet [] w e w' := by
  go_enter Tryz.func92, Tryz.ntmps92
  go_wp2
  refine wp_loop_rounds 1 ?_
  rw [rounds_succ]
  go_wp2_with (first | (go_at_call 109; refine (Tryz.slices_Sort_string_none _ _ _).mono ?_; rintro e w' ⟨rfl, rfl⟩) | (go_at_call 110; refine (Tryz.slices_Compact_string_empty _ _ _).mono ?_; rintro e w' ⟨rfl, rfl⟩))
  go_ret
  exact ⟨_, rfl, ⟨none, 0, by rw [setA_nil]; rfl, .inl setA_nil⟩, Below.refl _ _, fun k h => by cases h⟩
theorem texts_none (w : World) : Calls Tryz.prog 92 #[.slice none 0 0] w fun e w' => TextsRet [] w e w' := texts_zero w none 0
set_option maxHeartbeats 800000 in
theorem texts_n (w : World) (g m cap : Nat) (xs : List Dd) (hm : xs.length = m) (h0 : 0 < m) (hl : m ≤ 100000) (hg : g < w.heap.size) (hH : HoldsK Dd.enc 11 w g 0 xs.toArray) :
    Calls Tryz.prog 92 #[.slice (some ⟨g, 0, none⟩) m cap] w fun e w' => TextsRet (xs.map Dd.text) w e w' := by
  obtain ⟨i0, hi, hz0, hz1, hz2⟩ := info_parts Tryz.info9
  have HH := hid hH
  have HM := hid hm
  clear hH hm
  go_enter Tryz.func92, Tryz.ntmps92
  go_wp2
  go_loopw [3, 8] (fun v i wr => ∃ k : Nat, k ≤ m ∧ i = .int .i64 k ∧ Hid (Below w.heap.size w wr) ∧ Hid (wr.ownsRow w.heap.size 9 1 v (xs.take k).length (((xs.take k).map Dd.text).map Value.string))) (fun _ i _ => m - (intOf i).toNat)
  case atStart => exact ⟨0, Nat.zero_le _, rfl, Below.refl _ _, World.ownsRow_nil _ _ _ _⟩
  case round =>
    obtain ⟨k, hk, rfl, HB, HR⟩ := hrel
    have hsz := HB.out.size
    by_cases hlt : k < m
    · obtain ⟨u, hu⟩ : ∃ u, u = xs[k]! := ⟨_, rfl⟩
      obtain ⟨c0, c1, c2, c3, c4, c5, c6, c7, c8, c9, c10⟩ := holdsK_cells (holdsK_below HH.out HB.out hg) (j := k) (u := u) (by have := HM.out; simp; omega) (by rw [hu]; have := HM.out; rw [getElem!_pos xs.toArray k (by simp; omega), getElem!_pos xs k (by omega)]; simp)
      have hstep : ((xs.take (k + 1)).map Dd.text).map Value.string = ((xs.take k).map Dd.text).map Value.string ++ [.string u.text] := by
        rw [List.take_succ_eq_append_getElem (by have := HM.out; omega), hu, getElem!_pos xs k (by have := HM.out; omega), List.map_append, List.map_append]
        rfl
      have hlen : (xs.take (k + 1)).length = (xs.take k).length + 1 := by have := HM.out; simp; omega
      have hkl : (xs.take k).length ≤ m := by have := HM.out; simp; omega
      have HST := hid hstep
      have HLN := hid hlen
      have hrow := HR.out
      clear hu hstep hlen HR
      obtain ⟨x1, x2, x3, x4, x5, x6, dp, dl, dc, ⟨x8, x9, x10⟩, x11, ds⟩ := u
      simp only at c0 c1 c2 c3 c4 c5 c6 c7 c8 c9 c10
      go_wp2_with (at_builtin; refine wpList_append_own _ rfl _ _ 53 rfl w.heap.size 9 i0 _ 1 16 Tryz.underlying53 hi hz0 hz1 hz2 rfl (by decide) _ _ _ rfl ((hrow.alloc _).alloc _) ⟨wr.heap.size + 1, 0, none⟩ 1 1 [.string x4] rfl rfl (cells11_new _ _ _ _ (by simp)) ?ho1 ?ho2 ?ho3 ?ho4 ?_; (case ho1 => intro u hu; rw [List.mem_singleton.1 hu]; rfl); (case ho2 => unfold maxLen; omega); (case ho3 => omega); (case ho4 => simp; omega); intro v' w2 hown' hgrow2 hnil2)
      refine ⟨⟨k + 1, by omega, by go_num, ?_, ?_⟩, by simp [intOf]; omega⟩
      · exact ((HB.out.alloc hsz _).alloc (by simp; omega) _).grown hgrow2 (by simp; omega) (fun j hj => (hrow.lt j hj).1)
      · rw [HST.out, HLN.out]
        exact hown'
    · have hkm : m = k := by omega
      subst hkm
      have hrow := HR.out
      rw [List.take_of_length_le (by have := HM.out; omega)] at hrow
      obtain ⟨ts, hts⟩ : ∃ ts, ts = xs.map Dd.text := ⟨_, rfl⟩
      have htl : ts.length = m := by rw [hts]; have := HM.out; simp; omega
      rw [← hts, show xs.length = ts.length by rw [hts]; simp] at hrow
      have hv : ∃ g' n' c', u3 = .slice (some ⟨g', 0, none⟩) n' c' := by
        obtain ⟨_, h2⟩ := hrow
        rcases h2 with ⟨_, h⟩ | ⟨g', cap', cur, he, _⟩
        · omega
        · exact ⟨g', _, cap', he⟩
      obtain ⟨g', n', c', rfl⟩ := hv
      obtain ⟨hHs, hBg, hgl, hn, hcp⟩ := holdsS_of_owns hrow
      subst hn
      obtain ⟨ss, hss⟩ : ∃ ss, ss = (ts.map (·.data.toList)).mergeSort fun x y => decide (x ≤ y) := ⟨_, rfl⟩
      have hsl : ss.length = m := by rw [hss, List.length_mergeSort]; simp; omega
      have K62 := Tryz.slices_Sort_string g' 0 c' (ts.map (·.data.toList)) wr hHs hgl (by simp; omega)
      rw [← hss, List.length_map, htl] at K62
      have HTS := hid hts
      have HSS := hid hss
      have HHS := hid hHs
      have HSL := hid hsl
      clear hts hss hHs hrow HR hsl
      go_wp2_with fail
      refine K62.mono ?_
      rintro e w3 ⟨rfl, n3, os, hw3⟩
      have hH3 : Holds encStr w3 g' 0 ss.toArray := by
        rw [hw3]
        refine holds_grow _ _ _ _ _ _ (by unfold putRow mapBlock; simp [Sort.ahead]; omega) ?_
        exact holds_putRow encStr _ g' 0 _ _ (holds_ahead encStr wr n3 g' 0 _ HHS.out) (by have := HSL.out; simp; omega)
      have hb3 : Below w.heap.size wr w3 := by rw [hw3]; exact below_putRowS wr g' n3 _ os hBg hgl
      have hg3 : g' < w3.heap.size := Nat.lt_of_lt_of_le hgl hb3.size
      have K63 := Tryz.slices_Compact_string g' 0 c' ss w3 hH3 (by have := HSL.out; omega) (by have := HSL.out; omega)
      rw [HSL.out] at K63
      have HB3 := hid hb3
      have HH3 := hid hH3
      clear K62 hw3 hb3 hH3
      go_wp2_with fail
      refine K63.mono ?_
      rintro e w4 ⟨rfl, q, hw4⟩
      have hb4 : Below w.heap.size w3 w4 := by
        have := below_putRowS (B := w.heap.size) w3 g' q (Lib.compact ss ++ List.replicate (m - (Lib.compact ss).length) []).toArray #[] hBg hg3
        rw [grow_empty] at this
        rw [hw4]
        exact this
      have hcl : (Lib.compact ss).length ≤ ss.length := compact_le ss
      have hH4 : Holds encStr w4 g' 0 (Lib.compact ss ++ List.replicate (m - (Lib.compact ss).length) []).toArray := by
        rw [hw4]
        exact holds_putRow encStr _ g' 0 _ _ (holds_ahead encStr w3 q g' 0 _ HH3.out) (by have := HSL.out; simp; omega)
      have hfin : StrsAt w4 (.slice (some ⟨g', 0, none⟩) (Lib.compact ss).length c') (setA (xs.map Dd.text)) := by
        unfold setA
        rw [← HTS.out, ← HSS.out]
        refine ⟨_, c', rfl, .inr ⟨g', rfl, fun t ht => ?_⟩⟩
        have := (hH4 t (by simp; omega)).1
        rw [Nat.zero_add] at this
        rw [this]
        congr 2
        rw [getElem!_pos _ t (by simp; omega), getElem!_pos _ t ht]
        simp [List.getElem_append_left, ht]
      have HF := hid hfin
      have HB4 := hid hb4
      clear hw4 hb4 hH4 hfin K63
      go_wp2
      go_ret
      exact ⟨_, rfl, HF.out, (HB.out.trans HB3.out).trans HB4.out, fun k h => by cases h; exact hBg⟩
end Go.Proofs.YtngjooemanapnaaGreatDoor
namespace Go.Proofs.YtngjooemanapnaaGreatDoor
open Go.RowKit Go.Sort Go.Maps
set_option maxRecDepth 100000

/-- A value. -/
structure ValV where
  kind : Int
  text : ByteArray
  n : Int
  set : List (List UInt8)
/-- All that is added. -/
def sumN (ds : List Dn) : Int := ds.foldl (fun s d => s + d.o.n) 0
/-- The value that ops make, which are in order and of one kind. -/
def valA (ds : List Dn) : ValV :=
  if ds = [] then ⟨0, ByteArray.empty, 0, []⟩
  else if ds[0]!.o.kind = 1 then ⟨1, ds[ds.length - 1]!.o.text, 0, []⟩
  else if ds[0]!.o.kind = 2 then ⟨2, ByteArray.empty, sumN ds, []⟩
  else ⟨3, ByteArray.empty, 0, setA ((standA ds).map (·.o.text))⟩
def ValAt (w : World) (v : Value) (x : ValV) : Prop := ∃ sv, v = .agg #[.int .i64 x.kind, .string x.text, .int .i64 x.n, sv] ∧ StrsAt w sv x.set
/-- What Of hands back, where nothing is wrong. -/
def OfRet (key : ByteArray) (l : List ComV) (w : World) (e : Ending) (w' : World) : Prop :=
  ∃ v ds, e = .returned (.tuple #[v, .nilIface]) ∧ IsOps key l ds ∧ ValAt w' v (valA ds) ∧ Below w.heap.size w w'
theorem strs_nil (w : World) : StrsAt w (.slice none 0 0) [] := ⟨none, 0, rfl, .inl rfl⟩
/-- What is known of the ops of commits in which nothing is wrong. -/
structure DnOk (d : Dn) : Prop where
  kind : d.o.kind = 1 ∨ d.o.kind = 2 ∨ d.o.kind = 3
  lo : -1099511627776 ≤ d.o.n
  hi : d.o.n ≤ 1099511627776
  dot : wf3 d.dot
  dots : ∀ e ∈ d.o.dots, wf3 e
  few : d.o.dots.length ≤ 60
theorem opOk {o : OpV} {n : Int} (h : opErr o n = 0) : (o.kind = 1 ∨ o.kind = 2 ∨ o.kind = 3) ∧ -1099511627776 ≤ o.n ∧ o.n ≤ 1099511627776 ∧ (∀ e ∈ o.dots, wf3 e) ∧ o.dots.length ≤ 60 := by
  unfold opErr at h
  split at h
  · exact absurd h (by decide)
  · split at h
    · exact absurd h (by decide)
    · split at h
      · exact absurd h (by decide)
      · rename_i hn _ hk
        split at h
        · exact absurd h (by decide)
        · split at h
          · exact absurd h (by decide)
          · rename_i hb
            split at h
            · exact absurd h (by decide)
            · rename_i hd
              have hd' : o.dots.all (dotB n) = true := by simpa using hd
              refine ⟨?_, by omega, by omega, fun e he => ?_, by omega⟩
              · have : kindB o.kind = true := by simpa using hk
                simpa [kindB] using this
              · have := List.all_eq_true.1 hd' e he
                simp only [dotB, Bool.and_eq_true, decide_eq_true_eq] at this
                exact ⟨wf_i64 this.1 (by omega), wf_i64 (by omega) this.2.2.2.1, wf_i64 this.2.2.2.2.1 (by omega)⟩
theorem dnOf_ok {c : ComV} (hc : ComOk c) {o : OpV} (ho : o ∈ c.ops) : DnOk (dnOf c o) := by
  obtain ⟨i, hi, rfl⟩ := List.getElem_of_mem ho
  have he := opErr_of_bad (hc.ops i hi)
  rw [getElem!_pos c.ops i hi] at he
  obtain ⟨h1, h2, h3, h4, h5⟩ := opOk he
  have hat := at_of_opErr he
  have hp := hc.lo
  have hp2 := hc.hi
  have h6 := (chk_zero.1 hc.chk).2.1
  have ht := (chk_zero.1 hc.chk).2.2 c.place.toNat (by omega)
  exact ⟨h1, h2, h3, ⟨wf_i64 hp (by show c.place ≤ _; omega), wf_i64 ht.1 ht.2, wf_i64 hat.1 (by show c.ops[i].at_ ≤ _; omega)⟩, h4, h5⟩
theorem onceA_mem (l : List ComV) : ∀ d ∈ onceA l, ∃ c ∈ l, ∃ o ∈ c.ops, d = dnOf c o := by
  have h1 : ∀ (ds acc : List Dn) (d : Dn), d ∈ ds.foldl addDn acc → d ∈ acc ∨ d ∈ ds := by
    intro ds
    induction ds with
    | nil => intro acc d h; exact .inl h
    | cons x r ih =>
      intro acc d h
      rcases ih _ d h with h | h
      · unfold addDn at h
        split at h
        · exact .inl h
        · rcases List.mem_append.1 h with h | h
          · exact .inl h
          · rw [List.mem_singleton.1 h]; exact .inr (List.mem_cons_self ..)
      · exact .inr (List.mem_cons_of_mem _ h)
  have h2 : ∀ (l : List ComV) (acc : List Dn) (d : Dn), d ∈ l.foldl addCom acc → d ∈ acc ∨ ∃ c ∈ l, ∃ o ∈ c.ops, d = dnOf c o := by
    intro l
    induction l with
    | nil => intro acc d h; exact .inl h
    | cons c r ih =>
      intro acc d h
      rcases ih _ d h with h | ⟨c', hc', h⟩
      · rcases h1 _ _ d h with h | h
        · exact .inl h
        · obtain ⟨o, ho, rfl⟩ := List.mem_map.1 h
          exact .inr ⟨c, List.mem_cons_self .., o, ho, rfl⟩
      · exact .inr ⟨c', List.mem_cons_of_mem _ hc', h⟩
  intro d hd
  rcases h2 l [] d hd with h | h
  · simp at h
  · exact h
theorem isOps_mem {key : ByteArray} {l : List ComV} {ds : List Dn} (h : IsOps key l ds) : ∀ d ∈ ds, d ∈ onceA l := by
  obtain ⟨ys, ⟨hp, _⟩, rfl⟩ := h
  intro d hd
  have := (List.mem_filter.1 hd).1
  exact (List.mem_filter.1 (hp.mem_iff.1 this)).1
theorem isOps_ok {key : ByteArray} {l : List ComV} {ds : List Dn} (h : IsOps key l ds) (hl : ∀ i, i < l.length → listBad l i = 0) : ∀ d ∈ ds, DnOk d := by
  intro d hd
  obtain ⟨c, hc, o, ho, rfl⟩ := onceA_mem l d (isOps_mem h d hd)
  obtain ⟨i, hi, rfl⟩ := List.getElem_of_mem hc
  refine dnOf_ok (comOk_of ?_) ho
  have := hl i hi
  unfold listBad at this
  rw [getElem!_pos l i hi] at this
  split at this
  · rename_i h; exact absurd this h
  · rename_i h; simpa using h
theorem isOps_len {key : ByteArray} {l : List ComV} {ds : List Dn} (h : IsOps key l ds) (hl : ∀ c ∈ l, c.ops.length ≤ 12) : ds.length ≤ 12 * l.length := by
  obtain ⟨ys, ⟨hp, _⟩, rfl⟩ := h
  have h1 := onceA_len l hl
  have h2 := hp.length_eq
  have h3 := List.length_filter_le (fun x => decide (x.o.key = key)) (onceA l)
  have h4 := List.length_filter_le (fun x => decide (x.o.kind = ys[0]!.o.kind)) ys
  unfold ofKind
  omega
end Go.Proofs.YtngjooemanapnaaGreatDoor
namespace Go.Proofs.YtngjooemanapnaaGreatDoor
open Go.RowKit

theorem ret_errW {a b : Addr} (h : a = b) : Ending.returned (.iface 223 (.pointer (some a))) = .returned (.iface 223 (.pointer (some b))) := by rw [h]
theorem IntsAt.slice {w : World} {v : Value} {zs : List Int} (h : IntsAt w v zs) : ∃ ad c, v = .slice ad zs.length c := by
  obtain ⟨ad, c, rfl, _⟩ := h
  exact ⟨ad, c, rfl⟩
set_option maxHeartbeats 1000000 in
theorem checkPair_ok (A : Nat → Addr) (w : World) (hE : E4 A w) (v u : Value) (zs ys : List Int) (h1 : IntsAt w v zs) (h2 : IntsAt w u ys) (h0 : two zs ys = 0) :
    Calls Tryz.prog 58 #[v, u] w fun e w' => e = .returned .nilIface ∧ w' = w := by
  obtain ⟨hz, hy, hn⟩ := two_zero.1 h0
  have k1 := check_ok A w hE v zs h1 hz
  have k2 := check_ok A w hE u ys h2 hy
  obtain ⟨a1, c1, rfl⟩ := h1.slice
  obtain ⟨a2, c2, rfl⟩ := h2.slice
  have K1 := hid k1
  have K2 := hid k2
  have hb : ((zs.length : Int) != (ys.length : Int)) = false := by rw [bne_eq_false_iff_eq]; omega
  clear k1 k2 h0 hz hy hn
  go_enter Tryz.func58, Tryz.ntmps58
  go_wp2_with fail
  refine K1.out.mono ?_
  rintro e w' ⟨rfl, rfl⟩
  go_wp2_with fail
  refine K2.out.mono ?_
  rintro e w' ⟨rfl, rfl⟩
  go_wp2
  go_ret
  exact ⟨rfl, rfl⟩
set_option maxHeartbeats 1000000 in
theorem checkPair_bad (A : Nat → Addr) (w : World) (hE : E4 A w) (v u : Value) (zs ys : List Int) (h1 : IntsAt w v zs) (h2 : IntsAt w u ys) (hl1 : zs.length ≤ 1000000) (hl2 : ys.length ≤ 1000000) (h0 : two zs ys ≠ 0) :
    Calls Tryz.prog 58 #[v, u] w fun e w' => e = .returned (.iface 223 (.pointer (some (A ((two zs ys).toNat - 1))))) ∧ w' = w := by
  have g2 := hE.shape
  obtain ⟨m, hm⟩ : ∃ m, m = two zs ys := ⟨_, rfl⟩
  rw [← hm]
  by_cases hz : chk zs = 0
  · have k1 := check_ok A w hE v zs h1 hz
    by_cases hy : chk ys = 0
    · have k2 := check_ok A w hE u ys h2 hy
      obtain ⟨a1, c1, rfl⟩ := h1.slice
      obtain ⟨a2, c2, rfl⟩ := h2.slice
      have hne : zs.length ≠ ys.length := fun e => h0 (two_zero.2 ⟨hz, hy, e⟩)
      have HM : Hid (m = 3) := by rw [hm]; unfold two; rw [if_neg (by simpa using hz), if_neg (by simpa using hy), if_pos hne]; rfl
      have hb : ((zs.length : Int) != (ys.length : Int)) = true := by rw [bne_iff_ne]; omega
      have K1 := hid k1
      have K2 := hid k2
      clear k1 k2 h0 hz hy hm
      go_enter Tryz.func58, Tryz.ntmps58
      go_wp2_with fail
      refine K1.out.mono ?_
      rintro e w' ⟨rfl, rfl⟩
      go_wp2_with fail
      refine K2.out.mono ?_
      rintro e w' ⟨rfl, rfl⟩
      go_wp2
      go_ret
      exact ⟨ret_errW (by rw [HM.out]; rfl), rfl⟩
    · have k2 := check_bad A w hE u ys h2 hl2 hy
      have hmm : m = chk ys := by rw [hm]; unfold two; rw [if_neg (by simpa using hz), if_pos hy]
      rw [← hmm] at k2
      have K1 := hid k1
      have K2 := hid k2
      clear k1 k2 h0 hz hy hm hmm g2
      go_enter Tryz.func58, Tryz.ntmps58
      go_wp2_with fail
      refine K1.out.mono ?_
      rintro e w' ⟨rfl, rfl⟩
      go_wp2_with fail
      refine K2.out.mono ?_
      rintro e w' ⟨rfl, rfl⟩
      go_wp2
      go_ret
      exact ⟨rfl, rfl⟩
  · have k1 := check_bad A w hE v zs h1 hl1 hz
    have hmm : m = chk zs := by rw [hm]; unfold two; rw [if_pos hz]
    rw [← hmm] at k1
    have K1 := hid k1
    clear k1 h0 hz hm hmm g2
    go_enter Tryz.func58, Tryz.ntmps58
    go_wp2_with fail
    refine K1.out.mono ?_
    rintro e w' ⟨rfl, rfl⟩
    go_wp2
    go_ret
    exact ⟨rfl, rfl⟩
/-! ### the reference -/
theorem draws2 {w wr : World} {q n : Nat} (h : wr = w.drewN q) : wr.drewN n = w.drewN (q + n) := by rw [h]; exact World.drewN_drewN _ _ _
theorem le_any (x y : Int) (w : World) : Calls Tryz.prog 81 #[.int .i64 x, .int .i64 y] w fun e w' => e = .returned (.bool (decide (x ≤ y))) ∧ w' = w := by
  go_enter Tryz.func81, Tryz.ntmps81
  go_wp2
  go_ret
  exact ⟨rfl, rfl⟩
set_option maxHeartbeats 1000000 in
theorem within_n (w : World) (b1 o1 c1 b2 o2 c2 n : Nat) (zs ys : List Int) (hz : zs.length = n) (hy : ys.length = n) (hl : n ≤ 1000000)
    (h1 : ∀ t, t < n → w.cell? ⟨b1, o1 + t, none⟩ = some (.int .i64 (zs.getD t 0)))
    (h2 : ∀ t, t < n → w.cell? ⟨b2, o2 + t, none⟩ = some (.int .i64 (ys.getD t 0))) :
    Calls Tryz.prog 59 #[.slice (some ⟨b1, o1, none⟩) n c1, .slice (some ⟨b2, o2, none⟩) n c2] w fun e w' => e = .returned (.bool (leB zs ys)) ∧ ∃ q, w' = w.drewN q := by
  have HZ : Hid (zs.length = n) := hz
  have HY : Hid (ys.length = n) := hy
  have H1 := hid h1
  have H2 := hid h2
  clear hz hy h1 h2
  go_enter Tryz.func59, Tryz.ntmps59
  go_wp2
  go_loopw [10] (fun i wr => ∃ k q : Nat, k ≤ n ∧ i = .int .i64 k ∧ (∀ t, t < k → zs.getD t 0 ≤ ys.getD t 0) ∧ wr = w.drewN q) (fun i _ => n - (intOf i).toNat)
  case atStart => exact ⟨0, 0, Nat.zero_le _, rfl, fun t ht => absurd ht (Nat.not_lt_zero _), rfl⟩
  case round =>
    obtain ⟨k, q, hk, rfl, heq, hq⟩ := hrel
    have HE := hid heq
    have HQ := hid hq
    have e1' : k < n → wr.cell? ⟨b1, o1 + k, none⟩ = some (.int .i64 (zs.getD k 0)) := fun h => by rw [hq]; exact H1.out k h
    have e2' : k < n → wr.cell? ⟨b2, o2 + k, none⟩ = some (.int .i64 (ys.getD k 0)) := fun h => by rw [hq]; exact H2.out k h
    clear heq hq
    by_cases hlt : k < n
    · have e1 := e1' hlt
      have e2 := e2' hlt
      clear e1' e2'
      obtain ⟨x, hx⟩ : ∃ x, x = zs.getD k 0 := ⟨_, rfl⟩
      obtain ⟨y, hy⟩ : ∃ y, y = ys.getD k 0 := ⟨_, rfl⟩
      rw [← hx] at e1
      rw [← hy] at e2
      have HX := hid hx
      have HYY := hid hy
      have hi : (k : Int) < (n : Int) := by omega
      clear hx hy
      by_cases hd : x ≤ y
      · have hb : decide (x ≤ y) = true := decide_eq_true hd
        go_wp2
        go_quiet ((go_at_call 81; exact Calls.quiet_of_same (le_any _ _ _)))
        go_wp2
        go_roundw
        case rel =>
          refine ⟨k + 1, _, by omega, by go_num, fun t ht => ?_, draws2 HQ.out⟩
          rcases Nat.lt_succ_iff_lt_or_eq.1 ht with h | rfl
          · exact HE.out t h
          · rw [← HX.out, ← HYY.out]; exact hd
        case measure => simp [intOf]; omega
      · have hb : decide (x ≤ y) = false := decide_eq_false hd
        go_wp2
        go_quiet ((go_at_call 81; exact Calls.quiet_of_same (le_any _ _ _)))
        go_wp2
        go_ret
        refine ⟨ret_bool ?_, _, draws2 HQ.out⟩
        rw [eq_comm, Bool.eq_false_iff]
        intro h
        have := leB_iff.1 h k (by have := HZ.out; omega)
        rw [← HX.out, ← HYY.out] at this
        omega
    · obtain rfl : k = n := by omega
      go_wp2
      go_ret
      exact ⟨ret_bool (leB_iff.2 (fun i hi => HE.out i (by have := HZ.out; omega))).symm, _, HQ.out⟩
theorem within_any (w : World) (v u : Value) (zs ys : List Int) (h1 : IntsAt w v zs) (h2 : IntsAt w u ys) (hn : zs.length = ys.length) (h0 : 1 ≤ zs.length) (hl : zs.length ≤ 1000000) :
    Calls Tryz.prog 59 #[v, u] w fun e w' => e = .returned (.bool (leB zs ys)) ∧ ∃ q, w' = w.drewN q := by
  obtain ⟨a1, c1, rfl, _, h1⟩ := h1
  obtain ⟨a2, c2, rfl, _, h2⟩ := h2
  rcases h1 with rfl | ⟨b1, o1, rfl, h1⟩
  · simp at h0
  rcases h2 with rfl | ⟨b2, o2, rfl, h2⟩
  · rw [hn] at h0; simp at h0
  rw [← hn] at h2 ⊢
  exact within_n w b1 o1 c1 b2 o2 c2 zs.length zs ys rfl hn.symm hl h1 h2
set_option maxHeartbeats 1000000 in
theorem Within_ok (A : Nat → Addr) (w : World) (hE : E4 A w) (v u : Value) (zs ys : List Int) (h1 : IntsAt w v zs) (h2 : IntsAt w u ys) (h0 : two zs ys = 0) :
    Calls Tryz.prog 32 #[v, u] w fun e w' => e = .returned (.tuple #[.bool (leB zs ys), .nilIface]) ∧ ∃ q, w' = w.drewN q := by
  obtain ⟨hz, hy, hn⟩ := two_zero.1 h0
  have hz' := chk_zero.1 hz
  have K1 := hid (checkPair_ok A w hE v u zs ys h1 h2 h0)
  have K2 := hid (within_any w v u zs ys h1 h2 hn hz'.1 (by omega))
  clear h0 hz hy hn hz'
  go_enter Tryz.func32, Tryz.ntmps32
  go_wp2_with fail
  refine K1.out.mono ?_
  rintro e w' ⟨rfl, rfl⟩
  go_wp2_with fail
  refine K2.out.mono ?_
  rintro e w' ⟨rfl, hq⟩
  go_wp2
  go_ret2
  exact ⟨rfl, hq⟩
set_option maxHeartbeats 1000000 in
theorem Within_bad (A : Nat → Addr) (w : World) (hE : E4 A w) (v u : Value) (zs ys : List Int) (h1 : IntsAt w v zs) (h2 : IntsAt w u ys) (hl1 : zs.length ≤ 1000000) (hl2 : ys.length ≤ 1000000) (h0 : two zs ys ≠ 0) :
    Calls Tryz.prog 32 #[v, u] w fun e w' => e = .returned (.tuple #[.bool false, .iface 223 (.pointer (some (A ((two zs ys).toNat - 1))))]) ∧ w' = w := by
  have K1 := hid (checkPair_bad A w hE v u zs ys h1 h2 hl1 hl2 h0)
  clear h0
  go_enter Tryz.func32, Tryz.ntmps32
  go_wp2_with fail
  refine K1.out.mono ?_
  rintro e w' ⟨rfl, rfl⟩
  go_wp2
  go_ret2
  exact ⟨rfl, rfl⟩
end Go.Proofs.YtngjooemanapnaaGreatDoor
namespace Go.Proofs.YtngjooemanapnaaGreatDoor
open Go.RowKit
set_option maxRecDepth 100000

/-- What was read of a key. -/
structure SnV where
  key : ByteArray
  v : ValV
/-- An event. -/
structure EvV where
  ses : Int
  place : Int
  at_ : List Int
  reads : List SnV
  c : ComV
/-- An event's seven cells. -/
def evCells (e : EvV) (av rv wv ov : Value) : List Value := [.int .i64 e.ses, .int .i64 e.place, av, rv, wv, .int .i64 e.c.place, ov]
/-- A call's event: the slices of its vectors and ops; what is read of it is said apart. -/
structure EvAt (w : World) (e : EvV) (av wv ov : Value) : Prop where
  at_ : IntsAt w av e.at_
  when_ : IntsAt w wv e.c.when_
  ops : OpsAt w ov e.c.ops
theorem EvAt.mono {w w' : World} {e : EvV} {av wv ov : Value} {B : Nat} (h : EvAt w e av wv ov) (hb : Below B w w') (hB : w.heap.size ≤ B) : EvAt w' e av wv ov := ⟨h.at_.mono hb hB, h.when_.mono hb hB, h.ops.mono hb hB⟩
/-- Is a vector within another one, and are both vectors? -/
def inB (zs ys : List Int) : Bool := decide (two zs ys = 0) && leB zs ys
set_option maxHeartbeats 1000000 in
theorem withinJ_any (A : Nat → Addr) (w : World) (hE : E4 A w) (v u : Value) (zs ys : List Int) (h1 : IntsAt w v zs) (h2 : IntsAt w u ys) (hz : zs.length ≤ 1000000) (hy : ys.length ≤ 1000000) :
    Calls Tryz.prog 44 #[v, u] w fun e w' => e = .returned (.bool (inB zs ys)) ∧ ∃ q, w' = w.drewN q := by
  obtain ⟨a1, c1, rfl⟩ := h1.slice
  obtain ⟨a2, c2, rfl⟩ := h2.slice
  by_cases h : two zs ys = 0
  · have K := hid (Within_ok A w hE _ _ zs ys h1 h2 h)
    have hr : inB zs ys = leB zs ys := by unfold inB; rw [h]; simp
    rw [hr]
    obtain ⟨q, hq⟩ : ∃ q, q = leB zs ys := ⟨_, rfl⟩
    rw [← hq] at K ⊢
    clear h1 h2 hE h hr hq
    go_enter Tryz.func44, Tryz.ntmps44
    go_wp2_with (go_at_call 32; refine K.out.mono ?_; rintro e w' ⟨rfl, n, rfl⟩)
    go_ret
    exact ⟨rfl, n, rfl⟩
  · have K := hid (Within_bad A w hE _ _ zs ys h1 h2 hz hy h)
    have hr : inB zs ys = false := by unfold inB; rw [decide_eq_false h]; rfl
    rw [hr]
    clear h1 h2 hE h hr
    go_enter Tryz.func44, Tryz.ntmps44
    go_wp2_with (go_at_call 32; refine K.out.mono ?_; rintro e w' ⟨rfl, hw'⟩; rw [hw']; clear hw')
    go_ret
    exact ⟨rfl, 0, rfl⟩
set_option maxHeartbeats 1000000 in
theorem wrote_any (w : World) (e : EvV) (a1 a2 a3 a4 : Option Addr) (n1 c1 n2 c2 n3 c3 c4 : Nat) (hl : e.c.ops.length ≤ 1000000) :
    Calls Tryz.prog 41 #[.agg #[.int .i64 e.ses, .int .i64 e.place, .slice a1 n1 c1, .slice a2 n2 c2, .slice a3 n3 c3, .int .i64 e.c.place, .slice a4 e.c.ops.length c4]] w fun r w' => r = .returned (.bool (decide (e.c.ops ≠ []))) ∧ Below w.heap.size w w' := by
  obtain ⟨m, hm⟩ : ∃ m, m = e.c.ops.length := ⟨_, rfl⟩
  rw [← hm] at hl ⊢
  by_cases h : e.c.ops = []
  · have h0 : m = 0 := by rw [hm, h]; rfl
    have hr : decide (e.c.ops ≠ []) = false := by simp [h]
    rw [hr]
    subst h0
    clear hm h hr
    go_enter Tryz.func41, Tryz.ntmps41
    go_wp2
    go_ret
    exact ⟨rfl, below_alloc _ _⟩
  · have h0 : (0 : Int) < (m : Int) := by have := List.length_pos_iff.2 h; omega
    have hr : decide (e.c.ops ≠ []) = true := by simp [h]
    rw [hr]
    clear hm h hr
    go_enter Tryz.func41, Tryz.ntmps41
    go_wp2
    go_ret
    exact ⟨ret_bool (by simp; omega), below_alloc _ _⟩
end Go.Proofs.YtngjooemanapnaaGreatDoor
namespace Go.Proofs.YtngjooemanapnaaGreatDoor
open Go.RowKit
set_option maxRecDepth 100000

/-- What a verdict hands back: nothing, or the sentinel A k. -/
def sentV (A : Nat → Addr) : Nat → Value
  | 0 => .nilIface
  | k + 1 => .iface 223 (.pointer (some (A (k + 1))))
set_option maxHeartbeats 1000000 in
theorem forward_any (A : Nat → Addr) (w : World) (hE : E4 A w) (hs : 12 ≤ w.heap.size) (e : EvV) (av rv wv ov : Value) (he : EvAt w e av wv ov) (hz : e.at_.length ≤ 1000000) (hy : e.c.when_.length ≤ 1000000) :
    Calls Tryz.prog 22 #[.agg (evCells e av rv wv ov).toArray] w fun r w' => r = .returned (if inB e.at_ e.c.when_ then .nilIface else .iface 223 (.pointer (some (A 1)))) ∧ Below w.heap.size w w' := by
  have g0 := fun o => cell_alloc hE.bound o
  obtain ⟨q, hq⟩ : ∃ q, q = inB e.at_ e.c.when_ := ⟨_, rfl⟩
  rw [← hq]
  unfold evCells
  have K : ∀ o, Hid (Calls Tryz.prog 44 #[av, wv] (w.alloc o) fun r w' => r = .returned (.bool q) ∧ ∃ n, w' = (w.alloc o).drewN n) := fun o => hid (by
    rw [hq]
    exact withinJ_any A (w.alloc o) (hE.below (below_alloc _ _) hs) av wv _ _ (he.at_.mono (below_alloc _ _) (Nat.le_refl _)) (he.when_.mono (below_alloc _ _) (Nat.le_refl _)) hz hy)
  obtain ⟨a1, c1, h1⟩ := he.at_.slice
  obtain ⟨a2, c2, h2⟩ := he.when_.slice
  rw [h1, h2] at K
  rw [h1, h2]
  clear he h1 h2 hq
  cases q
  · go_enter Tryz.func22, Tryz.ntmps22
    go_wp2_with (go_at_call 44; refine (K _).out.mono ?_; rintro e w' ⟨rfl, n, rfl⟩)
    go_ret
    exact ⟨rfl, below_draws (below_alloc _ _) n⟩
  · go_enter Tryz.func22, Tryz.ntmps22
    go_wp2_with (go_at_call 44; refine (K _).out.mono ?_; rintro e w' ⟨rfl, n, rfl⟩)
    go_ret
    exact ⟨rfl, below_draws (below_alloc _ _) n⟩
end Go.Proofs.YtngjooemanapnaaGreatDoor
namespace Go.Proofs.YtngjooemanapnaaGreatDoor
open Go.RowKit
set_option maxRecDepth 100000

/-- Is it a vector of n places? -/
def oneB (n : Int) (zs : List Int) : Bool := decide ((zs.length : Int) = n) && decide (chk zs = 0)
set_option maxHeartbeats 1000000 in
theorem isOne_any (A : Nat → Addr) (w : World) (hE : E4 A w) (B : Nat) (n : Int) (hc : w.cell? ⟨B, 0, none⟩ = some (.int .i64 n)) (v : Value) (zs : List Int) (h : IntsAt w v zs) (hl : zs.length ≤ 1000000) :
    Calls Tryz.prog 38 #[v, .pointer (some ⟨B, 0, none⟩)] w fun e w' => e = .returned (.bool (oneB n zs)) ∧ w' = w := by
  obtain ⟨a1, c1, rfl⟩ := h.slice
  by_cases h1 : (zs.length : Int) = n
  · by_cases h2 : chk zs = 0
    · have K := hid (check_ok A w hE _ zs h h2)
      have hr : oneB n zs = true := by unfold oneB; rw [decide_eq_true h1, decide_eq_true h2]; rfl
      rw [hr]
      subst h1
      clear h hE h2 hr
      go_enter Tryz.func38, Tryz.ntmps38
      go_wp2_with (go_at_call 39; refine K.out.mono ?_; rintro e w' ⟨rfl, hw'⟩; rw [hw']; clear hw')
      go_ret
      exact ⟨ret_bool (by simp), rfl⟩
    · have K := hid (check_bad A w hE _ zs h hl h2)
      have hr : oneB n zs = false := by unfold oneB; rw [decide_eq_false h2, Bool.and_false]
      rw [hr]
      subst h1
      clear h hE h2 hr
      go_enter Tryz.func38, Tryz.ntmps38
      go_wp2_with (go_at_call 39; refine K.out.mono ?_; rintro e w' ⟨rfl, hw'⟩; rw [hw']; clear hw')
      go_ret
      exact ⟨ret_bool (by simp), rfl⟩
  · have hr : oneB n zs = false := by unfold oneB; rw [decide_eq_false h1]; rfl
    rw [hr]
    have hb : ((zs.length : Int) == n) = false := by rw [beq_eq_false_iff_ne]; exact h1
    clear h hE hr
    go_enter Tryz.func38, Tryz.ntmps38
    go_wp2
    go_ret
    exact ⟨ret_bool (by simp), rfl⟩
end Go.Proofs.YtngjooemanapnaaGreatDoor
