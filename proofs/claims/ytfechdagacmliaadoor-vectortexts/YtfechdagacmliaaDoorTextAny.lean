/- vector.Text at any slice; strconv.Atoi by its ends; what VectorTexts asks of its world. -/
import Derived.Test.YtfechdagacmliaaDoorShelf2
import Derived.Test.YtfechdagacmliaaDoorText
import Derived.Test.YtfechdagacmliaaDoorParse
import Derived.Lib.AppendIntMem
import Derived.Lib.AtoiErrMem
import Derived.Lib.LaidTab
namespace Go.Proofs.YtfechdagacmliaaDoor
open Go.RowKit

/-- What the walks over texts ask of a world. -/
structure TW (A : Nat → Addr) (w : World) : Prop where
  e2 : E2 A w
  text : w.cell? ⟨0, 0, none⟩ = some (.iface 60 (.pointer (some (A 0))))
  syn : ∃ te pe, w.cell? ⟨13, 0, none⟩ = some (.iface te pe)
  rng : ∃ te pe, w.cell? ⟨14, 0, none⟩ = some (.iface te pe)
  mxl : ∃ m, w.cell? ⟨16, 0, none⟩ = some (.int .i64 m)
  tab : Lib.TabIs Tryd.prog w "internal/strconv.uint64pow10" .u64 Lib.pow10Tab

theorem Tryd.gPow : Tryd.prog.globalNamed "internal/strconv.uint64pow10" = some 15 := by kernel_rfl
theorem tab_below {B : Nat} {w w' : World} (h : Lib.TabIs Tryd.prog w "internal/strconv.uint64pow10" .u64 Lib.pow10Tab) (hb : Below B w w') (hB : 16 ≤ B) : Lib.TabIs Tryd.prog w' "internal/strconv.uint64pow10" .u64 Lib.pow10Tab := by
  unfold Lib.TabIs World.var? at h ⊢
  rw [Tryd.gPow] at h ⊢
  simp only [Option.bind_some] at h ⊢
  rw [hb.block 15 (by omega)]
  exact h
theorem TW.below {A : Nat → Addr} {B : Nat} {w w' : World} (h : TW A w) (hb : Below B w w') (hB : 17 ≤ B) : TW A w' where
  e2 := h.e2.below hb (by omega)
  text := by rw [hb.cell (p := ⟨0, 0, none⟩) (by show 0 < B; omega)]; exact h.text
  syn := by rw [hb.cell (p := ⟨13, 0, none⟩) (by show 13 < B; omega)]; exact h.syn
  rng := by rw [hb.cell (p := ⟨14, 0, none⟩) (by show 14 < B; omega)]; exact h.rng
  mxl := by rw [hb.cell (p := ⟨16, 0, none⟩) (by show 16 < B; omega)]; exact h.mxl
  tab := tab_below h.tab hb (by omega)
theorem TW.size {A : Nat → Addr} {w : World} (h : TW A w) : 17 ≤ w.heap.size := by
  obtain ⟨m, hm⟩ := h.mxl
  exact lt_of_cell hm

/-- vector.Text: no error. -/
theorem text_ok (A : Nat → Addr) (w : World) (hT : TW A w) (v : Value) (zs : List Int) (h : IntsAt w v zs) (h0 : chk zs = 0) :
    Calls Tryd.prog 28 #[v] w fun e w' => e = .returned (.tuple #[.string ⟨(textOf zs).toArray⟩, .nilIface]) ∧ Below w.heap.size w w' := by
  obtain ⟨b, o, c, rfl, hc⟩ := h.some (chk_zero.1 h0).1
  have hr := (chk_zero.1 h0).2.2
  have hsz := hT.size
  have ej : Lib.join ((zs.map fun z => (⟨(Lib.itoa z).toArray⟩ : ByteArray)).map (·.data.toList)) [46] = textOf zs := by
    unfold textOf
    rw [List.map_map]
    rfl
  have K := text_n A w hT.e2 b o c zs.length zs (zs.map fun z => ⟨(Lib.itoa z).toArray⟩) rfl (List.length_map _) h0 hc (fun t ht w1 hb1 => by
    have hz := hr t ht
    have e : (zs.map fun z => (⟨(Lib.itoa z).toArray⟩ : ByteArray)).getD t ⟨#[]⟩ = ⟨(Lib.itoa (zs.getD t 0)).toArray⟩ := by
      rw [List.getD_eq_getElem?_getD, List.getElem?_map, List.getElem?_eq_getElem ht, List.getD_eq_getElem?_getD, List.getElem?_eq_getElem ht]
      rfl
    rw [e]
    refine (Tryd.strconv_Itoa (zs.getD t 0) (by omega) (by omega) w1 (tab_below hT.tab hb1 (by omega))).mono ?_
    rintro e w2 ⟨rfl, k, os, rfl⟩
    exact ⟨rfl, Lib.below_grow _ _ (Nat.le_refl _) _ _⟩) (by rw [ej]; exact Nat.le_trans (text_len h0) (by decide))
  rw [ej] at K
  exact K

/-- vector.Text: an error. -/
theorem text_bad (A : Nat → Addr) (w : World) (hE : E2 A w) (v : Value) (zs : List Int) (h : IntsAt w v zs) (hl : zs.length ≤ 1000000) (h0 : chk zs ≠ 0) :
    Calls Tryd.prog 28 #[v] w fun e w' => e = .returned (.tuple #[.string ⟨#[]⟩, .iface 60 (.pointer (some (A ((chk zs).toNat - 1))))]) ∧ w' = w := by
  have K1 := hid (check_bad A w hE v zs h hl h0)
  clear h0
  go_enter Tryd.func28, Tryd.ntmps28
  go_wp2_with fail
  refine K1.out.mono ?_
  rintro e w' ⟨rfl, rfl⟩
  go_wp2
  go_ret2
  exact ⟨rfl, rfl⟩

/-- strconv.Atoi, as far as it matters here: the number, or an error. -/
def numOf (l : List UInt8) : Option Int := match Lib.atoiAll l with | .ok z => some z | _ => none
theorem atoi_yes (w : World) (s : ByteArray) (hs : s.size ≤ 1000) (z : Int) (h : numOf s.data.toList = some z) :
    Calls Tryd.prog 44 #[.string s] w fun e w' => e = .returned (.tuple #[.int .i64 z, .nilIface]) ∧ Below w.heap.size w w' := by
  have h' : Lib.atoiAll s.data.toList = .ok z := by
    unfold numOf at h
    split at h
    · rename_i z' e; rw [e, Option.some.inj h]
    · cases h
  refine (Tryd.strconv_Atoi_ok s (by omega) z h' w).mono ?_
  rintro e w' ⟨rfl, rfl | ⟨t, rfl⟩⟩
  · exact ⟨rfl, Below.refl _ _⟩
  · exact ⟨rfl, Lib.bytesWorld_below _ _ _⟩
theorem atoi_no (A : Nat → Addr) (w : World) (hT : TW A w) (s : ByteArray) (hs : s.size ≤ 1000) (h : numOf s.data.toList = none) :
    Calls Tryd.prog 44 #[.string s] w fun e w' => ∃ k N, e = .returned (.tuple #[.int .i64 k, .iface 118 (.pointer (some ⟨N, 0, none⟩))]) ∧ Below w.heap.size w w' := by
  obtain ⟨te, pe, hs1⟩ := hT.syn
  obtain ⟨te2, pe2, hs2⟩ := hT.rng
  cases h' : Lib.atoiAll s.data.toList with
  | ok z => unfold numOf at h; rw [h'] at h; cases h
  | range =>
    refine (Tryd.strconv_Atoi_range s (by omega) h' _ w hs2 (.inr ⟨te2, pe2, rfl⟩)).mono ?_
    rintro e w' ⟨N, rfl, _, _, hb⟩
    exact ⟨_, N, rfl, hb⟩
  | _ =>
    refine (Any.strconv_Atoi_syntax Tryd.laysC172 s (by omega) h' _ w hs1 (.inr ⟨te, pe, rfl⟩)).mono ?_
    rintro e w' ⟨N, rfl, _, _, hb⟩
    exact ⟨_, N, rfl, hb⟩

/-! ### the parts of a text -/
theorem split_size (sep : ByteArray) : ∀ (k : Nat) (s : ByteArray), ∀ p ∈ Lib.splitB sep 0 k s, p.size ≤ s.size
  | 0, s, p, hp => by
    obtain rfl := List.mem_singleton.1 hp
    exact Nat.le_refl _
  | k + 1, s, p, hp => by
    unfold Lib.splitB at hp
    split at hp
    · obtain rfl := List.mem_singleton.1 hp
      exact Nat.le_refl _
    · rcases List.mem_cons.1 hp with rfl | hp
      · rw [ByteArray.size_extract]; omega
      · have := split_size sep k _ p hp
        rw [ByteArray.size_extract] at this
        omega
/-- The parts of the text of a vector are its numerals. -/
theorem parts_of_text {s : ByteArray} {o : List Int} (h0 : chk o = 0) (h : textOf o = s.data.toList) : (Lib.splitB ⟨#[46]⟩ 0 (min 7 (s.size + 1) - 1) s).map (·.data.toList) = o.map Lib.itoa := by
  have a := chk_zero.1 h0
  have b := chk_mem h0
  rw [Lib.splitB_data, ← h]
  have hlen : o.length ≤ s.size + 1 := by
    have e1 : s.size = (textOf o).length := by rw [h, Array.length_toList]; rfl
    have key : ∀ (u : List Int), (∀ z ∈ u, 0 ≤ z) → u.length ≤ (textOf u).length := by
      intro u
      induction u with
      | nil => intro _; simp
      | cons z r ih =>
        intro hu
        have hz := hu z (List.mem_cons_self ..)
        have hl : 1 ≤ (Lib.itoa z).length := by rw [itoa_nat hz]; exact dd_len_pos _
        have ih' := ih fun x hx => hu x (List.mem_cons_of_mem _ hx)
        cases r with
        | nil => rw [text_one]; simpa using hl
        | cons y r =>
          have e : textOf (z :: y :: r) = Lib.itoa z ++ 46 :: textOf (y :: r) := by
            unfold textOf
            rw [List.map_cons, List.map_cons, join_two]
          rw [e, List.length_append, List.length_cons, List.length_cons (a := 46)]
          omega
    have := key o fun z hz => (b.2 z hz).1
    omega
  refine splitK_join (o.map Lib.itoa) _ (by simpa using b.1) (by rw [List.length_map]; omega) ?_
  intro p hp c hc
  obtain ⟨z, hz, rfl⟩ := List.mem_map.1 hp
  exact itoa_no_dot (b.2 z hz).1 c hc
def vals (P : List ByteArray) : List Int := P.map fun p => (numOf p.data.toList).getD 0
theorem num_itoa {z : Int} (h0 : 0 ≤ z) (h1 : z ≤ 1099511627776) : numOf (Lib.itoa z) = some z := by
  unfold numOf
  rw [atoi_itoa h0 h1]
theorem vals_of_text {s : ByteArray} {o : List Int} (h0 : chk o = 0) (h : textOf o = s.data.toList) : vals (Lib.splitB ⟨#[46]⟩ 0 (min 7 (s.size + 1) - 1) s) = o := by
  have b := chk_mem h0
  have hp := parts_of_text h0 h
  have e : vals (Lib.splitB ⟨#[46]⟩ 0 (min 7 (s.size + 1) - 1) s) = ((Lib.splitB ⟨#[46]⟩ 0 (min 7 (s.size + 1) - 1) s).map (·.data.toList)).map fun l => (numOf l).getD 0 := by
    unfold vals
    rw [List.map_map]
    rfl
  rw [e, hp, List.map_map]
  conv => rhs; rw [← List.map_id o]
  refine List.map_congr_left fun z hz => ?_
  simp only [Function.comp, id, num_itoa (b.2 z hz).1 (b.2 z hz).2, Option.getD_some]
theorem ok_of_text {s : ByteArray} {o : List Int} (h0 : chk o = 0) (h : textOf o = s.data.toList) : ∀ p ∈ Lib.splitB ⟨#[46]⟩ 0 (min 7 (s.size + 1) - 1) s, numOf p.data.toList ≠ none := by
  have b := chk_mem h0
  have hp := parts_of_text h0 h
  intro p hm e
  have : p.data.toList ∈ o.map Lib.itoa := by rw [← hp]; exact List.mem_map.2 ⟨p, hm, rfl⟩
  obtain ⟨z, hz, hzz⟩ := List.mem_map.1 this
  rw [← hzz, num_itoa (b.2 z hz).1 (b.2 z hz).2] at e
  cases e
end Go.Proofs.YtfechdagacmliaaDoor
