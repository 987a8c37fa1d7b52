/- Contracts of Go's library at this program's numbers, by the kit's own layings; slices.DeleteFunc over dots; Which dots are spent: the closure of withoutSpentRemoves; Spent dots go: slices.DeleteFunc with the closure, over a row of dots of its own; slices.SortFunc over parts; Parts whose spent dots go, one behind the other; withoutSpentRemoves by its contract: what is added; Parts that a store holds in blocks of their own: what stands while settle goes on; Two rows that are built side by side. -/
import Derived.Shelf.SlicesQ.IndexFunc
import Derived.Shelf.SlSortCmp.WholeK
import Derived.Shelf.SlMaps.Clone
import Derived.Test.YtdnebclemngdcaaGreatDoorProg
import Derived.Test.YtdnebclemngdcaaGreatDoorJQE
import Derived.Test.YtdnebclemngdcaaGreatDoorJVDelF
import Derived.Test.YtdnebclemngdcaaGreatDoorJZR3
import Derived.Shelf.SlSortCmp.NoneTotal
import Derived.Test.YtdnebclemngdcaaGreatDoorJVTurnM
import Derived.Test.YtdnebclemngdcaaGreatDoorJWPart2
import Derived.Test.YtdnebclemngdcaaGreatDoorJVOfRQ
import Derived.Maps.AppendAt
namespace Go.Proofs
open Go.Shelf
def Tryz.idxDot_ren : Go.Shelf.Ren := ⟨fun | 6 => 126 | n => n, fun | 22 => 65 | 23 => 87 | 25 => 108 | 3 => 3 | 0 => 0 | 4 => 4 | n => n, fun | n => n⟩
theorem Tryz.idxDot : Go.Proofs.SlLaysH0.n6 Tryz.prog Tryz.idxDot_ren := {
  mixed := by kernel_rfl
  f6 := ⟨Tryz.f126.name, by decide, Tryz.func126.trans (congrArg some (by kernel_rfl))⟩
  t0 := Tryz.underlying0
  a0 := Tryz.isAgg0
  z0 := Tryz.sizeOf0
  v0 := Tryz.zeroValue0
  t3 := Tryz.underlying3
  a3 := Tryz.isAgg3
  z3 := Tryz.sizeOf3
  v3 := Tryz.zeroValue3
  t4 := Tryz.underlying4
  a4 := Tryz.isAgg4
  z4 := Tryz.sizeOf4
  v4 := Tryz.zeroValue4
  t22 := Tryz.underlying65
  a22 := Tryz.isAgg65
  z22 := Tryz.sizeOf65
  v22 := Tryz.zeroValue65
  t25 := Tryz.underlying108
  a25 := Tryz.isAgg108
  z25 := Tryz.sizeOf108
  v25 := Tryz.zeroValue108 }
def Tryz.sortCom_ren : Go.Shelf.Ren := ⟨fun | 6 => 69 | 15 => 100 | 14 => 99 | 28 => 135 | 29 => 136 | 20 => 127 | 21 => 128 | 22 => 129 | 23 => 130 | 24 => 131 | 25 => 132 | 26 => 133 | 27 => 134 | 46 => 163 | 47 => 164 | 48 => 165 | 49 => 166 | 50 => 167 | 57 => 183 | n => n, fun | 22 => 22 | 24 => 34 | 25 => 124 | 3 => 3 | 39 => 152 | 0 => 0 | 53 => 198 | 55 => 200 | 4 => 4 | 46 => 192 | 45 => 191 | 50 => 171 | 5 => 5 | 9 => 9 | 66 => 233 | 70 => 237 | 76 => 248 | 77 => 101 | n => n, fun | n => n⟩
theorem Tryz.sortCom : Go.Proofs.SlLaysF0.n6 Tryz.prog Tryz.sortCom_ren := {
  mixed := by kernel_rfl
  f6 := ⟨Tryz.f69.name, by decide, Tryz.func69.trans (congrArg some (by kernel_rfl))⟩
  f14 := ⟨Tryz.f99.name, by decide, Tryz.func99.trans (congrArg some (by kernel_rfl))⟩
  f15 := Tryz.func100.trans (congrArg some (by kernel_rfl))
  f20 := ⟨Tryz.f127.name, by decide, Tryz.func127.trans (congrArg some (by kernel_rfl))⟩
  f21 := ⟨Tryz.f128.name, by decide, Tryz.func128.trans (congrArg some (by kernel_rfl))⟩
  f22 := ⟨Tryz.f129.name, by decide, Tryz.func129.trans (congrArg some (by kernel_rfl))⟩
  f23 := ⟨Tryz.f130.name, by decide, Tryz.func130.trans (congrArg some (by kernel_rfl))⟩
  f24 := ⟨Tryz.f131.name, by decide, Tryz.func131.trans (congrArg some (by kernel_rfl))⟩
  f25 := ⟨Tryz.f132.name, by decide, Tryz.func132.trans (congrArg some (by kernel_rfl))⟩
  f26 := ⟨Tryz.f133.name, by decide, Tryz.func133.trans (congrArg some (by kernel_rfl))⟩
  f27 := ⟨Tryz.f134.name, by decide, Tryz.func134.trans (congrArg some (by kernel_rfl))⟩
  f28 := Tryz.func135.trans (congrArg some (by kernel_rfl))
  f29 := Tryz.func136.trans (congrArg some (by kernel_rfl))
  f46 := ⟨Tryz.f163.name, by decide, Tryz.func163.trans (congrArg some (by kernel_rfl))⟩
  f47 := Tryz.func164.trans (congrArg some (by kernel_rfl))
  f48 := Tryz.func165.trans (congrArg some (by kernel_rfl))
  f49 := ⟨Tryz.f166.name, by decide, Tryz.func166.trans (congrArg some (by kernel_rfl))⟩
  f50 := ⟨Tryz.f167.name, by decide, Tryz.func167.trans (congrArg some (by kernel_rfl))⟩
  f57 := ⟨Tryz.f183.name, by decide, Tryz.func183.trans (congrArg some (by kernel_rfl))⟩
  t0 := Tryz.underlying0
  a0 := Tryz.isAgg0
  z0 := Tryz.sizeOf0
  v0 := Tryz.zeroValue0
  t3 := Tryz.underlying3
  a3 := Tryz.isAgg3
  z3 := Tryz.sizeOf3
  v3 := Tryz.zeroValue3
  t4 := Tryz.underlying4
  a4 := Tryz.isAgg4
  z4 := Tryz.sizeOf4
  v4 := Tryz.zeroValue4
  t5 := Tryz.underlying5
  a5 := Tryz.isAgg5
  z5 := Tryz.sizeOf5
  v5 := Tryz.zeroValue5
  t9 := Tryz.underlying9
  a9 := Tryz.isAgg9
  z9 := Tryz.sizeOf9
  v9 := Tryz.zeroValue9
  t22 := Tryz.underlying22
  a22 := Tryz.isAgg22
  z22 := Tryz.sizeOf22
  v22 := Tryz.zeroValue22
  t25 := Tryz.underlying124
  a25 := Tryz.isAgg124
  z25 := Tryz.sizeOf124
  v25 := Tryz.zeroValue124
  t39 := Tryz.underlying152
  a39 := Tryz.isAgg152
  z39 := Tryz.sizeOf152
  v39 := Tryz.zeroValue152
  t45 := Tryz.underlying191
  a45 := Tryz.isAgg191
  z45 := Tryz.sizeOf191
  v45 := Tryz.zeroValue191
  t46 := Tryz.underlying192
  a46 := Tryz.isAgg192
  z46 := Tryz.sizeOf192
  v46 := Tryz.zeroValue192
  t50 := Tryz.underlying171
  a50 := Tryz.isAgg171
  z50 := Tryz.sizeOf171
  v50 := Tryz.zeroValue171
  t53 := Tryz.underlying198
  a53 := Tryz.isAgg198
  z53 := Tryz.sizeOf198
  v53 := Tryz.zeroValue198
  t55 := Tryz.underlying200
  a55 := Tryz.isAgg200
  z55 := Tryz.sizeOf200
  v55 := Tryz.zeroValue200
  t66 := Tryz.underlying233
  a66 := Tryz.isAgg233
  z66 := Tryz.sizeOf233
  v66 := Tryz.zeroValue233
  t70 := Tryz.underlying237
  a70 := Tryz.isAgg237
  z70 := Tryz.sizeOf237
  v70 := Tryz.zeroValue237
  t76 := Tryz.underlying248
  a76 := Tryz.isAgg248
  z76 := Tryz.sizeOf248
  v76 := Tryz.zeroValue248
  t77 := Tryz.underlying101
  a77 := Tryz.isAgg101
  z77 := Tryz.sizeOf101
  v77 := Tryz.zeroValue101 }
def Tryz.cloneDots_ren : Go.Shelf.Ren := ⟨fun | 5 => 43 | 7 => 66 | n => n, fun | 23 => 81 | 25 => 87 | 3 => 84 | 4 => 4 | 20 => 20 | n => n, fun | n => n⟩
theorem Tryz.cloneDots : Go.Proofs.SlLaysW.n5 Tryz.prog Tryz.cloneDots_ren := {
  mixed := by kernel_rfl
  f5 := ⟨Tryz.f43.name, by decide, Tryz.func43.trans (congrArg some (by kernel_rfl))⟩
  f7 := Tryz.func66.trans (congrArg some (by kernel_rfl))
  t4 := Tryz.underlying4
  a4 := Tryz.isAgg4
  z4 := Tryz.sizeOf4
  v4 := Tryz.zeroValue4
  t20 := Tryz.underlying20
  a20 := Tryz.isAgg20
  z20 := Tryz.sizeOf20
  v20 := Tryz.zeroValue20
  t23 := Tryz.underlying81
  a23 := Tryz.isAgg81
  z23 := Tryz.sizeOf81
  v23 := Tryz.zeroValue81 }
end Go.Proofs
namespace Go.Proofs.YtdnebclemngdcaaGreatDoor
open Go.RowKit Go.Sort Go.Lib Go.Maps
set_option linter.unusedSectionVars false
variable [Inhabited ComV] [DecidableEq D3] [Inhabited D3] [Inhabited Dd] [Inhabited Dn] [Inhabited OpV]

abbrev Wd := { d : D3 // wf3 d }
def Wd.cells (x : Wd) : List Value := x.1.cells
theorem Wd.cells_length (x : Wd) : x.cells.length = 3 := rfl
theorem zero87q (w : World) : (zeroValue 87).run Tryz.prog w = .ok (.agg #[.int .i64 0, .int .i64 0, .int .i64 0]) w := by kernel_rfl
theorem zeros3_one (n : Nat) : ∀ v ∈ (Builtin.zeroCells (Value.cells (.agg #[.int .i64 0, .int .i64 0, .int .i64 0])) n).toList, v.oneCell' = true := by
  intro v hv; simp only [Builtin.zeroCells, Value.cells] at hv; rw [Array.mem_toList_iff, Array.mem_map] at hv; obtain ⟨i, _, rfl⟩ := hv; obtain ⟨j, hj⟩ : ∃ j, j = i % 3 := ⟨_, rfl⟩; have hl : j < 3 := by omega
  show (#[Value.int .i64 0, .int .i64 0, .int .i64 0][i % 3]!).oneCell' = true; rw [← hj]; rcases (by omega : j = 0 ∨ j = 1 ∨ j = 2) with h | h | h <;> rw [h] <;> rfl
theorem deleteDots_none (w : World) (p : Option Addr) (c : Nat) (fv : Value) : Calls Tryz.prog 106 #[.slice p 0 c, fv] w fun e w' => e = .returned (.slice p 0 c) ∧ w' = w := by
  go_enter Tryz.func106, Tryz.ntmps106
  go_wp2_with (go_at_call 126; refine (indexDots_none _ _ _ _).mono ?_; rintro e w' ⟨rfl, rfl⟩)
  go_ret; exact ⟨rfl, rfl⟩
variable [Inhabited Wd]
theorem holdsW_iff {w : World} {g : Nat} {d : Array Wd} : HoldsK Wd.cells 3 w g 0 d ↔ ∀ j, j < d.size → ∀ i, i < 3 → w.cell? ⟨g, j * 3 + i, none⟩ = some (d[j]!.cells[i]!) ∧ w.frozen? ⟨g, j * 3 + i, none⟩ = false := by
  constructor
  · intro h j hj i hi; have := h (j * 3 + i) (by rw [size_flatK]; omega); rw [get_flatK _ _ _ _ (by omega), show (j * 3 + i) / 3 = j by omega, show (j * 3 + i) % 3 = i by omega, Nat.zero_add] at this; exact this
  · intro h t ht; rw [size_flatK] at ht; rw [get_flatK _ _ _ _ ht, Nat.zero_add]; have := h (t / 3) (by omega) (t % 3) (by omega); rw [show t / 3 * 3 + t % 3 = t by omega] at this; exact this
theorem holdsW_some {w : World} {g : Nat} {d : Array Wd} (h : HoldsK Wd.cells 3 w g 0 d) {j : Nat} (hj : j < d.size) : ∀ q, q < 3 → (w.cell? ⟨g, j * 3 + q, none⟩).isSome = true := fun q hq => by
  rw [(holdsW_iff.1 h j hj q hq).1]; rfl
theorem holdsW_frz {w : World} {g : Nat} {d : Array Wd} (h : HoldsK Wd.cells 3 w g 0 d) {j : Nat} (hj : j < d.size) : ∀ q, q < 3 → w.frozen? ⟨g, j * 3 + q, none⟩ = false := fun q hq => (holdsW_iff.1 h j hj q hq).2
theorem holdsW_set {w : World} {g : Nat} {d : Array Wd} (h : HoldsK Wd.cells 3 w g 0 d) {i : Nat} (hi : i < d.size) (x : Wd) : HoldsK Wd.cells 3 (w.setCells g (i * 3) x.cells) g 0 (d.setIfInBounds i x) := by
  rw [holdsW_iff] at h ⊢; intro j hj t ht; have hj' : j < d.size := by simpa using hj
  rw [World.frozen?_setCells]; refine ⟨?_, (h j hj' t ht).2⟩
  by_cases e : j = i
  · subst e; have := World.cell?_setCells_in g x.cells (j * 3) w (fun q hq => by rw [(h j hj' q (by simpa [Wd.cells_length] using hq)).1]; rfl) t (by rw [Wd.cells_length]; exact ht); have e2 : (d.setIfInBounds j x)[j]! = x := by simp [hj']
    rw [this, e2, getElem!_pos x.cells t (by rw [Wd.cells_length]; exact ht)]
  · rw [World.cell?_setCells_out g x.cells (i * 3) w _ (fun _ _ => by rw [Wd.cells_length]; simp only; omega), (h j hj' t ht).1]; have e2 : (d.setIfInBounds i x)[j]! = d[j]! := by simp [hj', Ne.symm e]
    rw [e2]
theorem holdsW_cut {w : World} {g : Nat} {d d' : Array Wd} (h : HoldsK Wd.cells 3 w g 0 d) (hs : d'.size ≤ d.size) (he : ∀ j, j < d'.size → d'[j]! = d[j]!) : HoldsK Wd.cells 3 w g 0 d' := by
  rw [holdsW_iff] at h ⊢; intro j hj t ht; rw [he j hj]; exact h j (by omega) t ht
theorem holdsW_tail {w : World} {g : Nat} {d : Array Wd} (h : HoldsK Wd.cells 3 w g 0 d) (o : Nat) (vs : List Value) (ho : d.size * 3 ≤ o) : HoldsK Wd.cells 3 (w.setCells g o vs) g 0 d := by
  rw [holdsW_iff] at h ⊢; intro j hj t ht; rw [World.frozen?_setCells, World.cell?_setCells_out g vs o w _ (fun _ _ => .inl (by simp only; omega))]; exact h j hj t ht
theorem holdsW_below {w w' : World} {B g : Nat} {d : Array Wd} (h : HoldsK Wd.cells 3 w g 0 d) (hb : Below B w w') (hg : g < B) : HoldsK Wd.cells 3 w' g 0 d := by
  rw [holdsW_iff] at h ⊢; intro j hj t ht; have e := hb.block g hg; have := h j hj t ht; simp only [World.cell?, World.frozen?, e]
  simpa only [World.cell?, World.frozen?] using this
set_option maxHeartbeats 2000000 in
set_option maxRecDepth 100000 in
theorem deleteDots_some (w : World) (g cap gf : Nat) (lb : Array Value) (p : Wd → Bool) (d : Array Wd) (eg : ∀ args w, (callFunc gf args).run Tryz.prog w = .ok (.enter gf args) w) (S : World → Prop) (hS0 : S w)
    (hSb : ∀ W W', S W → Below W.heap.size W W' → S W') (hSs : ∀ W o vs, S W → S (W.setCells g o vs))
    (hp : ∀ (W : World) (x : Wd), S W → Calls Tryz.prog gf (#[.agg x.cells.toArray] ++ lb) W fun e w' => e = .returned (.bool (p x)) ∧ Below W.heap.size W w')
    (hg : g < w.heap.size) (hH : HoldsK Wd.cells 3 w g 0 d) (hcap : d.size ≤ cap) (hsz : d.size ≤ 1000000) :
    Calls Tryz.prog 106 #[.slice (some ⟨g, 0, none⟩) d.size cap, .func (.func gf) #[] lb] w fun e w' => e = .returned (.slice (some ⟨g, 0, none⟩) (d.toList.filter fun x => !p x).length cap) ∧ HoldsK Wd.cells 3 w' g 0 (d.toList.filter fun x => !p x).toArray ∧ S w' := by
  have tl : ∀ j, j < d.size → d.toList[j]! = d[j]! := fun j hj => by rw [getElem!_pos d j hj, getElem!_pos d.toList j (by simpa using hj)]; simp
  have hIF := AnyQ.slices_IndexFunc Tryz.idxDot 3 Tryz.isAgg87 Tryz.sizeOf87 Wd.cells Wd.cells_length p gf lb eg g 0 d.size cap d.toList w
    (fun W x hb => (hp W x (hSb w W hS0 hb)).mono fun _ _ ⟨he, hw⟩ => ⟨he, hb.trans (hw.mono hb.size)⟩) (by simp) (by omega) hg (fun j hj i v hi => by
      have hj' : j < d.size := by simpa using hj
      have hi' : i < 3 := by have := (List.getElem?_eq_some_iff.1 hi).1; rw [Wd.cells_length] at this; exact this
      rw [Nat.zero_add, (holdsW_iff.1 hH j hj' i hi').1, ← tl j hj', List.getElem!_eq_getElem?_getD (l := (d.toList[j]!).cells), hi]; rfl)
  change Calls Tryz.prog 126 _ _ _ at hIF
  rw [show d.toList.take d.size = d.toList from List.take_of_length_le (by simp)] at hIF; obtain ⟨kp, HK⟩ : ∃ kp : Nat → Bool, Hid (kp = fun j => !p d[j]!) := ⟨_, rfl⟩; have hfil : (d.toList.filter fun x => !p x) = keptUpTo kp d d.size := by rw [HK.out]; exact (keptUpTo_filter (fun x => !p x) d).symm
  rw [hfil]; rcases idxByFrom_spec (fun _ y => p y) default d.toList 0 with ⟨e1, hall⟩ | ⟨k0, hk0, e1, ht, hall⟩
  · have e2 : Lib.idxBy (fun _ y => p y) d.toList default = -1 := e1; rw [e2] at hIF; have hkeep : ∀ j, j < d.size → kp j = true := fun j hj => by rw [HK.out]; show (!p d[j]!) = true; rw [← tl j hj, hall j (by simpa using hj)]; rfl
    have e3 : keptUpTo kp d d.size = d.toList := by rw [keptUpTo_all kp d _ hkeep, range_map_get]
    have HH := hid hH; have HS0 := hid hS0; have HSb := hid hSb; clear hH hp hSb hSs hS0; go_enter Tryz.func106, Tryz.ntmps106
    go_wp2_with (go_at_call 126; refine hIF.mono ?_; rintro e w' ⟨rfl, hb'⟩)
    go_ret; rw [e3]
    exact ⟨by simp, by simpa using holdsW_below HH.out hb' hg, HSb.out _ _ HS0.out hb'⟩
  · have hk0' : k0 < d.size := by simpa using hk0
    have e2 : Lib.idxBy (fun _ y => p y) d.toList default = (k0 : Int) := by unfold Lib.idxBy; rw [e1]; simp
    rw [e2] at hIF; have hkeep : ∀ j, j < k0 → kp j = true := fun j hj => by rw [HK.out]; show (!p d[j]!) = true; rw [← tl j (by omega), hall j hj]; rfl
    have hdrop : kp k0 = false := by rw [HK.out]; show (!p d[k0]!) = false; rw [← tl k0 hk0']; rw [show p d.toList[k0]! = true from ht]; rfl
    have hne1 : ((k0 : Int) == -1) = false := beq_eq_false_iff_ne.2 (by omega); have HC := hid hp; have HH := hid hH; have HS0 := hid hS0; have HSb := hid hSb; have HSs := hid hSs; clear hp hH hall ht e1 e2 tl hSb hSs hS0; go_enter Tryz.func106, Tryz.ntmps106
    go_wp2_with (go_at_call 126; refine hIF.mono ?_; rintro e w' ⟨rfl, hb'⟩)
    have HB := hid hb'; clear hb' hIF hfil
    go_loopg [5, 6, 7] d.size (fun gg s5 s6 _ wr => ∃ (i j : Nat) (dk : Array Wd), s5 = .int .i64 i ∧ s6 = .int .i64 j ∧ j ≤ d.size ∧ d.size - j ≤ gg ∧ Hid (HoldsK Wd.cells 3 wr g 0 dk) ∧ g < wr.heap.size ∧ Hid (KeptInv kp d j i dk) ∧ Hid (S wr))
    case atStart => exact ⟨k0, k0 + 1, d, rfl, by go_num, by omega, by omega, holdsW_below HH.out HB.out hg, Nat.lt_of_lt_of_le hg HB.out.size, KeptInv.start hkeep hdrop, HSb.out _ _ HS0.out HB.out⟩
    case round =>
      obtain ⟨i, j, dk, rfl, rfl, hjd, hgg, HD, hgw, I2, JS⟩ := hrel; have hij := I2.out.lt; have hds := I2.out.size
      by_cases hlt : j < d.size
      · have hltz : (j : Int) < (d.size : Int) := by omega
        obtain ⟨u, hu⟩ : ∃ u, u = d[j]! := ⟨_, rfl⟩; have hcs := fun i hi => (holdsW_iff.1 HD.out j (by omega) i hi).1
        rw [I2.out.high j (by omega), ← hu] at hcs; have c0 : wr.cell? ⟨g, j * 3, none⟩ = some (.int .i64 u.1.p) := hcs 0 (by omega); have c1 : wr.cell? ⟨g, j * 3 + 1, none⟩ = some (.int .i64 u.1.t) := hcs 1 (by omega); have c2 : wr.cell? ⟨g, j * 3 + 2, none⟩ = some (.int .i64 u.1.a) := hcs 2 (by omega); have HU := hid hu; clear hu hcs; obtain ⟨w1, hw1⟩ : ∃ w1, w1 = wr.alloc (.cells #[.int .i64 u.1.p, .int .i64 u.1.t, .int .i64 u.1.a] 87) := ⟨_, rfl⟩; have hB1 : Below wr.heap.size wr w1 := by rw [hw1]; exact below_alloc _ _
        have x1 : w1.heap[wr.heap.size]? = some (.cells #[.int .i64 u.1.p, .int .i64 u.1.t, .int .i64 u.1.a] 87 (0, 0)) := by rw [hw1]; exact (MapKept.heap_alloc _ _).1
        have hcall := HC.out w1 u (HSb.out _ _ JS.out hB1); obtain ⟨pu, hpu⟩ : ∃ pu, pu = p u := ⟨_, rfl⟩; rw [← hpu] at hcall; have HPU := hid hpu; have hB1h := hid hB1; have X1 := hid x1; simp only [Wd.cells, D3.cells] at hcall; have HCALL := hid hcall; clear hpu hB1 x1 hcall; obtain ⟨⟨u1, u2, u3⟩, hwu⟩ := u; simp only at c0 c1 c2 hw1 X1 HCALL; go_wp2_with fail; rw [← hw1]; clear hw1; refine HCALL.out.mono ?_; rintro e w2 ⟨rfl, hB2⟩; have hB : Below wr.heap.size wr w2 := hB1h.out.trans (hB2.mono hB1h.out.size); have HB2 := hid hB; have S2 := hid (HSb.out _ _ JS.out hB); have x2 := (hB2.block _ (lt_of_heapQ X1.out)).trans X1.out; have y0 : w2.cell? ⟨wr.heap.size, 0, none⟩ = some (.int .i64 u1) := by simp only [World.cell?, x2]; rfl
        have y1 : w2.cell? ⟨wr.heap.size, 1, none⟩ = some (.int .i64 u2) := by simp only [World.cell?, x2]; rfl
        have y2 : w2.cell? ⟨wr.heap.size, 2, none⟩ = some (.int .i64 u3) := by simp only [World.cell?, x2]; rfl
        have hX := holdsW_below HD.out hB hgw; have HHc := hid (holdsW_some hX (j := i) (by omega)); have HHf := hid (holdsW_frz hX (j := i) (by omega)); have HSET := hid (holdsW_set hX (i := i) (by omega) ⟨⟨u1, u2, u3⟩, hwu⟩); have HXX := hid hX; have hg2 : g < w2.heap.size := Nat.lt_of_lt_of_le hgw hB.size; clear hB hB2 x2 hX c0 c1 c2 HCALL hB1h X1
        cases pu with
        | false =>
          go_wp2_with (refine wpList_store_k _ rfl (.tmp 33) (.tmp 32) 87 rfl g (i * 3) [.int .i64 u1, .int .i64 u2, .int .i64 u3] rfl rfl 3 rfl Tryz.sizeOf87 rfl _ ?hW HHc.out HHf.out ?_; case hW => rfl)
          go_roundg (d.size - (j + 1))
          case measure => omega
          case rel =>
            refine ⟨i + 1, j + 1, dk.setIfInBounds i ⟨⟨u1, u2, u3⟩, hwu⟩, by go_num, by go_num, by omega, Nat.le_refl _, HSET.out, ?_, ?_, HSs.out _ _ _ S2.out⟩
            · rw [setCells_size]; exact hg2
            · have := I2.out.keep hlt (by rw [HK.out]; show (!p d[j]!) = true; rw [← HU.out, ← HPU.out]; rfl); rw [← HU.out] at this; exact this
        | true =>
          go_wp2_with fail
          go_roundg (d.size - (j + 1))
          case measure => omega
          case rel =>
            refine ⟨i, j + 1, dk, rfl, by go_num, by omega, Nat.le_refl _, HXX.out, hg2, ?_, S2.out⟩; exact I2.out.skip (by rw [HK.out]; show (!p d[j]!) = false; rw [← HU.out, ← HPU.out]; rfl)
      · obtain rfl : j = d.size := by omega
        have hltz : ¬ (d.size : Int) < (d.size : Int) := by omega
        obtain ⟨vs, hvs⟩ : ∃ vs, vs = (Builtin.zeroCells (Value.cells (.agg #[.int .i64 0, .int .i64 0, .int .i64 0])) (d.size - i)).toList := ⟨_, rfl⟩; have hvl : vs.length = (d.size - i) * 3 := by rw [hvs]; simp [Builtin.zeroCells, Value.cells]; try omega
        have hcl : ∀ ty, (Builtin.clear_ #[65] ty #[.slice (some ⟨g, i * 3, none⟩) (d.size - i) (cap - i)]).run Tryz.prog wr = .ok (.tuple #[]) (wr.setCells g (i * 3) vs) := fun ty =>
          run_clear_k wr 65 87 ty _ Tryz.underlying65 zero87q g (i * 3) (d.size - i) (cap - i) (by omega) vs hvs.symm (by rw [hvs]; exact zeros3_one _) (fun q hq => by
            rw [hvl] at hq; have := holdsW_some HD.out (j := i + q / 3) (by omega) (q % 3) (by omega)
            rwa [show (i + q / 3) * 3 + q % 3 = i * 3 + q by omega] at this) (fun q hq => by
            rw [hvl] at hq; have := holdsW_frz HD.out (j := i + q / 3) (by omega) (q % 3) (by omega); rwa [show (i + q / 3) * 3 + q % 3 = i * 3 + q by omega] at this)
        have HV := hid hvs; have HL := hid hvl; clear hvs hvl; go_wp2; go_ret; have hI := I2.out; rw [hI.len]; refine ⟨rfl, ?_, HSs.out _ _ _ JS.out⟩; refine holdsW_tail (holdsW_cut HD.out (by simp [hI.len]; omega) (fun q hq => ?_)) _ _ (by simp [hI.len]); have hq' : q < i := by simpa [hI.len] using hq
        have := hI.low q hq'; obtain ⟨h1, h2⟩ := List.getElem?_eq_some_iff.1 this; rw [← h2]; simp [h1]
end Go.Proofs.YtdnebclemngdcaaGreatDoor
namespace Go.Proofs.YtdnebclemngdcaaGreatDoor
open Go.RowKit Go.Maps
set_option maxRecDepth 100000
set_option linter.unusedSectionVars false
variable [Inhabited ComV] [DecidableEq D3] [Inhabited D3] [Inhabited Dd] [Inhabited Dn] [Inhabited OpV]

def DotSet (w : World) (db n : Nat) (V : D3 → Bool) : Prop := ∃ D : DataW Unit, w.ownsMap Tryz.prog 87 unitElem db n D ∧ ∀ d, wf3 d → Maps.has D (klD d) = V d
theorem DotSet.kept {w w' : World} {db n : Nat} {V : D3 → Bool} {row : Option Nat} (h : DotSet w db n V) (hg : w.grownBy w' row) (hne : some db ≠ row) : DotSet w' db n V := let ⟨D, h1, h2⟩ := h; ⟨D, h1.kept hg hne, h2⟩
theorem DotSet.below {w w' : World} {db n : Nat} {V : D3 → Bool} (h : DotSet w db n V) (hb : Below w.heap.size w w') : DotSet w' db n V := h.kept (row := none) ⟨hb.os, hb.tape, hb.output, hb.size, fun i hi _ => hb.block i hi⟩ (by simp)
theorem DotSet.look {w : World} {db n : Nat} {V : D3 → Bool} (h : DotSet w db n V) (d : D3) (hd : wf3 d) : (Instr.lookup 81 (.map (some db)) (.agg #[.int .i64 d.p, .int .i64 d.t, .int .i64 d.a]) true).run Tryz.prog w = .ok (.tuple #[.agg #[], .bool (V d)]) w := by
  obtain ⟨D, h1, h2⟩ := h; obtain ⟨v, ps, hrun, hR⟩ := h1.look_ok keyed65 Tryz.underlying81 (Tryz.zero111 w) unitElem_mk (key_dot d hd); obtain ⟨rfl, _⟩ := unitElem_inv hR; rw [hrun, h2 d hd]
theorem box3Q {w : World} {z : Nat} {a b c : Value} {t : TypeId} (h : w.heap[z]? = some (.cells #[a, b, c] t (0, 0))) : w.cell? ⟨z, 0, none⟩ = some a ∧ w.cell? ⟨z, 1, none⟩ = some b ∧ w.cell? ⟨z, 2, none⟩ = some c := by
  refine ⟨?_, ?_, ?_⟩ <;> (simp only [World.cell?, h]; rfl)
set_option maxHeartbeats 4000000 in
theorem spent_ok (w : World) (d : D3) (kv ka ko vp db mb g n m : Nat) (V : D3 → Bool) (T : List (D3 × ByteArray)) (tx : ByteArray) (hd : wf3 d) (ht : tx.size ≤ 1000)
    (c1 : w.cell? ⟨kv, 0, none⟩ = some (.pointer (some ⟨vp, 0, none⟩))) (c2 : w.cell? ⟨vp, 2, none⟩ = some (.map (some db))) (c3 : w.cell? ⟨ka, 0, none⟩ = some (.map (some mb))) (c4 : w.cell? ⟨ko, 0, none⟩ = some (.pointer (some ⟨g, 0, none⟩))) (c5 : w.cell? ⟨g, 3, none⟩ = some (.string tx)) (hV : DotSet w db n V) (hT : TgtAt w mb m T) :
    Calls Tryz.prog 107 #[.agg #[.int .i64 d.p, .int .i64 d.t, .int .i64 d.a], .pointer (some ⟨kv, 0, none⟩), .pointer (some ⟨ka, 0, none⟩), .pointer (some ⟨ko, 0, none⟩)] w fun e w' => e = .returned (.bool (V d && !tgtB T d tx)) ∧ Below w.heap.size w w' := by
  obtain ⟨w1, hw1⟩ : ∃ w1, w1 = w.alloc (.cells #[.int .i64 d.p, .int .i64 d.t, .int .i64 d.a] 87) := ⟨_, rfl⟩; have hB1 : Below w.heap.size w w1 := by rw [hw1]; exact below_alloc _ _
  have x1 : w1.heap[w.heap.size]? = some (.cells #[.int .i64 d.p, .int .i64 d.t, .int .i64 d.a] 87 (0, 0)) := by rw [hw1]; exact (MapKept.heap_alloc _ _).1
  have V1 := hV.below hB1; have T1 := hT.below hB1; have d1 := upQ hB1 c1; have d2 := upQ hB1 c2; have d3 := upQ hB1 c3; have d4 := upQ hB1 c4; have d5 := upQ hB1 c5; obtain ⟨y0, y1, y2⟩ := box3Q x1; have hl : (Instr.lookup 81 (.map (some db)) (.agg #[.int .i64 d.p, .int .i64 d.t, .int .i64 d.a]) true).run Tryz.prog w1.drew = .ok (.tuple #[.agg #[], .bool (V d)]) w1.drew := (V1.below (below_draws (Below.refl _ _) 1 : Below w1.heap.size w1 w1.drew)).look d hd; have hla : ∀ o, (Instr.lookup 81 (.map (some db)) (.agg #[.int .i64 d.p, .int .i64 d.t, .int .i64 d.a]) true).run Tryz.prog (w1.drew.alloc o) = .ok (.tuple #[.agg #[], .bool (V d)]) (w1.drew.alloc o) := fun o => ((V1.below (below_draws (Below.refl _ _) 1 : Below w1.heap.size w1 w1.drew)).below (below_alloc _ o)).look d hd
  have hlb : ∀ o, (Instr.lookup 81 (.map (some db)) (.agg #[.int .i64 d.p, .int .i64 d.t, .int .i64 d.a]) true).run Tryz.prog (w1.alloc o).drew = .ok (.tuple #[.agg #[], .bool (V d)]) (w1.alloc o).drew := fun o => ((V1.below (below_alloc _ o)).below (below_draws (Below.refl _ _) 1 : Below (w1.alloc o).heap.size (w1.alloc o) (w1.alloc o).drew)).look d hd
  obtain ⟨vd, hvd⟩ : ∃ vd, vd = V d := ⟨_, rfl⟩; rw [← hvd] at hl hla hlb ⊢; obtain ⟨p, t, a⟩ := d; simp only at y0 y1 y2 hl hla hlb hw1 ⊢; have HB1 := hid hB1; have HT1 := hid T1; have HWF := hid hd; obtain ⟨z, hz⟩ : ∃ z, z = w.heap.size := ⟨_, rfl⟩; clear V1 T1 hV hT hB1 x1 c1 c2 c3 c4 c5 hvd hd; go_enter Tryz.func107, Tryz.ntmps107; go_upto_region 1 with (fail); rw [← hw1]; rw [← hz] at y0 y1 y2 ⊢; clear hw1 hz
  go_region_held (fun w' => w'.cell? ⟨kv, 0, none⟩ = some (.pointer (some ⟨vp, 0, none⟩)) ∧ w'.cell? ⟨vp, 2, none⟩ = some (.map (some db)) ∧ w'.cell? ⟨z, 0, none⟩ = some (.int .i64 p) ∧ w'.cell? ⟨z, 1, none⟩ = some (.int .i64 t) ∧ w'.cell? ⟨z, 2, none⟩ = some (.int .i64 a)) (go_keep) (fail)
  all_goals (
    obtain ⟨w2, hw2⟩ : ∃ w2, w2 = (w1.alloc (.cells #[] 84)).drew := ⟨_, rfl⟩; have hB2 : Below w1.heap.size w1 w2 := by rw [hw2]; exact below_draws (below_alloc _ _) 1
    rw [← hw2]; have T2 := HT1.out.below hB2; have e3 := upQ hB2 d3; have e4 := upQ hB2 d4; have e5 := upQ hB2 d5; have f0 := upQ hB2 y0; have f1 := upQ hB2 y1; have f2 := upQ hB2 y2; have gl : (Instr.lookup 154 (.map (some mb)) (tgtV ⟨p, t, a⟩ tx) true).run Tryz.prog w2.drew = .ok (.tuple #[.agg #[], .bool (tgtB T ⟨p, t, a⟩ tx)]) w2.drew := (T2.below (below_draws (Below.refl _ _) 1 : Below w2.heap.size w2 w2.drew)).look _ _ HWF.out ht; have gla : ∀ o, (Instr.lookup 154 (.map (some mb)) (tgtV ⟨p, t, a⟩ tx) true).run Tryz.prog (w2.alloc o).drew = .ok (.tuple #[.agg #[], .bool (tgtB T ⟨p, t, a⟩ tx)]) (w2.alloc o).drew := fun o => ((T2.below (below_alloc _ o)).below (below_draws (Below.refl _ _) 1 : Below (w2.alloc o).heap.size (w2.alloc o) (w2.alloc o).drew)).look _ _ HWF.out ht
    unfold tgtV at gl gla; simp only at gl gla; obtain ⟨tb, htb⟩ : ∃ tb, tb = tgtB T ⟨p, t, a⟩ tx := ⟨_, rfl⟩; rw [← htb] at gl gla; have HTB := hid htb; have HB2 := hid (HB1.out.trans (hB2.mono HB1.out.size)); clear hw2 hB2 T2 htb d1 d2 d3 d4 d5 y0 y1 y2 hl hla hlb; go_wp2_with fail
    go_region_held (fun w' => w'.cell? ⟨ka, 0, none⟩ = some (.map (some mb)) ∧ w'.cell? ⟨z, 0, none⟩ = some (.int .i64 p) ∧ w'.cell? ⟨z, 1, none⟩ = some (.int .i64 t) ∧ w'.cell? ⟨z, 2, none⟩ = some (.int .i64 a) ∧ w'.cell? ⟨ko, 0, none⟩ = some (.pointer (some ⟨g, 0, none⟩)) ∧ w'.cell? ⟨g, 3, none⟩ = some (.string tx)) (go_keep) (fail)
    all_goals (
      obtain ⟨w3, hw3⟩ : ∃ w3, w3 = (w2.alloc (.cells #[] 84)).drew := ⟨_, rfl⟩; have hB3 : Below w2.heap.size w2 w3 := by rw [hw3]; exact below_draws (below_alloc _ _) 1
      rw [← hw3]; have HB3 := hid (HB2.out.trans (hB3.mono HB2.out.size)); clear hw3 hB3 e3 e4 e5 f0 f1 f2 gl gla
      cases vd with
      | true =>
        go_wp2; go_ret
        exact ⟨ret_bool (by rw [← HTB.out]; rfl), HB3.out⟩
      | false =>
        go_wp2; go_ret
        exact ⟨rfl, HB3.out⟩))
end Go.Proofs.YtdnebclemngdcaaGreatDoor
namespace Go.Proofs.YtdnebclemngdcaaGreatDoor
open Go.RowKit Go.Sort Go.Lib Go.Maps
set_option maxRecDepth 100000
set_option linter.unusedSectionVars false
variable [Inhabited ComV] [DecidableEq D3] [Inhabited D3] [Inhabited Dd] [Inhabited Dn] [Inhabited OpV]

theorem Off.grown1 {b : Nat} {w w' : World} (h : Off [b] w w') : w.grownBy w' (some b) := ⟨h.os, h.tape, h.output, h.size, fun k hk hr => h.block k hk fun e => hr (by rw [List.mem_singleton.1 e])⟩
theorem setCells_heap (b : Nat) : ∀ (vs : List Value) (o : Nat) (w : World) (i : Nat), i ≠ b → (w.setCells b o vs).heap[i]? = w.heap[i]?
  | [], _, _, _, _ => rfl
  | v :: r, o, w, i, hi => by
    show ((w.setCell ⟨b, o, none⟩ v).setCells b (o + 1) r).heap[i]? = _; rw [setCells_heap b r (o + 1) _ i hi, Below.heap_setCell _ _ _ _ hi]
theorem setCells_same (b : Nat) (t : TypeId) : ∀ (vs : List Value) (o : Nat) (w : World) (n : Nat), (∃ cur, w.heap[b]? = some (.cells cur t (0, 0)) ∧ cur.size = n) → ∃ cur, (w.setCells b o vs).heap[b]? = some (.cells cur t (0, 0)) ∧ cur.size = n
  | [], _, _, _, h => h
  | v :: r, o, w, n, ⟨cur, h1, h2⟩ => setCells_same b t r (o + 1) _ n ⟨_, heap_setQ h1 o v, by simpa using h2⟩
theorem Off.cells {G : List Nat} {w : World} {b : Nat} (hb : b ∈ G) (o : Nat) (vs : List Value) : Off G w (w.setCells b o vs) := by
  refine ⟨?_, ?_, ?_, by rw [setCells_size]; exact Nat.le_refl _, fun i _ hg => setCells_heap b vs o w i fun e => hg (by rw [e]; exact hb)⟩
  · have : ∀ (vs : List Value) (o : Nat) (w : World), (w.setCells b o vs).os = w.os := fun vs => by
      induction vs with
      | nil => intro o w; rfl
      | cons v r ih => intro o w; exact (ih (o + 1) _).trans rfl
    exact this vs o w
  · have : ∀ (vs : List Value) (o : Nat) (w : World), (w.setCells b o vs).tape = w.tape := fun vs => by
      induction vs with
      | nil => intro o w; rfl
      | cons v r ih => intro o w; exact (ih (o + 1) _).trans rfl
    exact this vs o w
  · have : ∀ (vs : List Value) (o : Nat) (w : World), (w.setCells b o vs).output = w.output := fun vs => by
      induction vs with
      | nil => intro o w; rfl
      | cons v r ih => intro o w; exact (ih (o + 1) _).trans rfl
    exact this vs o w
theorem flatW (ws : List Wd) : ws.flatMap Wd.cells = (ws.map (·.1)).flatMap D3.cells := by
  induction ws with
  | nil => rfl
  | cons x r ih => rw [List.flatMap_cons, List.map_cons, List.flatMap_cons, ih]; rfl
theorem lift_wd {ds : List D3} (h : ∀ d ∈ ds, wf3 d) : ∃ ws : List Wd, ws.map (·.1) = ds := by
  induction ds with
  | nil => exact ⟨[], rfl⟩
  | cons d r ih =>
    obtain ⟨ws, e⟩ := ih fun x hx => h x (by simp [hx])
    exact ⟨⟨d, h d (by simp)⟩ :: ws, by simp [e]⟩
theorem wd_filter (p : D3 → Bool) (ws : List Wd) : (ws.filter fun x => p x.1).map (·.1) = (ws.map (·.1)).filter p := by
  rw [List.filter_map]; rfl
theorem wd_at (ws : List Wd) {j i : Nat} {x : Wd} (hj : ws[j]? = some x) (hi : i < 3) : (ws.flatMap Wd.cells)[j * 3 + i]? = x.cells[i]? := by
  induction ws generalizing j with
  | nil => simp at hj
  | cons y r ih =>
    rw [List.flatMap_cons]
    cases j with
    | zero =>
      obtain rfl : y = x := by simpa using hj
      rw [List.getElem?_append_left (by rw [Wd.cells_length]; omega)]; simp
    | succ j =>
      rw [List.getElem?_append_right (by rw [Wd.cells_length]; omega), Wd.cells_length, show (j + 1) * 3 + i - 3 = j * 3 + i by omega]; exact ih (by simpa using hj)
theorem holds_of_row [Inhabited Wd] {w : World} {g : Nat} {cur : Array Value} {ws : List Wd} (h : w.heap[g]? = some (.cells cur 87 (0, 0))) (ht : cur.toList.take (ws.length * 3) = ws.flatMap Wd.cells) : HoldsK Wd.cells 3 w g 0 ws.toArray := by
  rw [holdsW_iff]; intro j hj i hi; have hj' : j < ws.length := by simpa using hj
  have hx : ws[j]? = some ws.toArray[j]! := by rw [getElem!_pos ws.toArray j hj]; simp
  have e := wd_at ws hx hi; rw [← ht, List.getElem?_take, if_pos (by omega), Array.getElem?_toList] at e; refine ⟨?_, ?_⟩
  · simp only [World.cell?, h]; rw [getElem!_pos (ws.toArray[j]!).cells i (by rw [Wd.cells_length]; exact hi)]; rw [List.getElem?_eq_getElem (by rw [Wd.cells_length]; exact hi)] at e
    simpa using e
  · simp only [World.frozen?, h]; simp
theorem row_of_holds [Inhabited Wd] {w : World} {g : Nat} {cur : Array Value} {ws : List Wd} (h : w.heap[g]? = some (.cells cur 87 (0, 0))) (hh : HoldsK Wd.cells 3 w g 0 ws.toArray) : cur.toList.take (ws.length * 3) = ws.flatMap Wd.cells := by
  refine List.ext_getElem? fun t => ?_
  have hl : (ws.flatMap Wd.cells).length = ws.length * 3 := by
    clear hh
    induction ws with
    | nil => rfl
    | cons x r ih => rw [List.flatMap_cons, List.length_append, ih, Wd.cells_length, List.length_cons]; omega
  by_cases ht : t < ws.length * 3
  · have hj : t / 3 < ws.length := by omega
    have e1 := (holdsW_iff.1 hh (t / 3) (by simpa using hj) (t % 3) (by omega)).1; rw [show t / 3 * 3 + t % 3 = t by omega] at e1; simp only [World.cell?, h] at e1; have hx : ws[t / 3]? = some ws.toArray[t / 3]! := by rw [getElem!_pos ws.toArray (t / 3) (by simpa using hj)]; simp
    have e2 := wd_at ws hx (i := t % 3) (by omega); rw [show t / 3 * 3 + t % 3 = t by omega] at e2; rw [e2, List.getElem?_take, if_pos ht, Array.getElem?_toList]; rw [getElem!_pos (ws.toArray[t / 3]!).cells (t % 3) (by rw [Wd.cells_length]; omega)] at e1; rw [List.getElem?_eq_getElem (by rw [Wd.cells_length]; omega)]
    simpa using e1
  · rw [List.getElem?_eq_none (by rw [List.length_take]; omega), List.getElem?_eq_none (by omega)]
def spB (V : D3 → Bool) (T : List (D3 × ByteArray)) (t : ByteArray) (d : D3) : Bool := V d && !tgtB T d t
def ownL (v : Value) : List Nat := v.ownBlock.toList
theorem spentDots_ok (w : World) (dv : Value) (ds : List D3) (kv ka ko vp db mb g n m : Nat) (V : D3 → Bool) (T : List (D3 × ByteArray)) (tx : ByteArray) (hdv : DotsO w dv ds) (hds : ∀ d ∈ ds, wf3 d) (hfew : ds.length ≤ 60) (ht : tx.size ≤ 1000)
    (c1 : w.cell? ⟨kv, 0, none⟩ = some (.pointer (some ⟨vp, 0, none⟩))) (c2 : w.cell? ⟨vp, 2, none⟩ = some (.map (some db))) (c3 : w.cell? ⟨ka, 0, none⟩ = some (.map (some mb))) (c4 : w.cell? ⟨ko, 0, none⟩ = some (.pointer (some ⟨g, 0, none⟩))) (c5 : w.cell? ⟨g, 3, none⟩ = some (.string tx)) (hV : DotSet w db n V) (hT : TgtAt w mb m T) (hne : ∀ b, dv.ownBlock = some b → b ≠ kv ∧ b ≠ vp ∧ b ≠ ka ∧ b ≠ ko ∧ b ≠ g) :
    Calls Tryz.prog 106 #[dv, .func (.func 107) #[] #[.pointer (some ⟨kv, 0, none⟩), .pointer (some ⟨ka, 0, none⟩), .pointer (some ⟨ko, 0, none⟩)]] w fun e w' => ∃ dv', e = .returned dv' ∧ DotsO w' dv' (ds.filter fun d => !spB V T tx d) ∧ dv'.ownBlock = dv.ownBlock ∧ Off (ownL dv) w w' := by
  haveI : Inhabited Wd := ⟨⟨⟨0, 0, 0⟩, ⟨by decide, by decide, by decide⟩⟩⟩
  have hdv0 := hdv; obtain ⟨_, h2⟩ := hdv; rcases h2 with ⟨rfl, h0⟩ | ⟨bd, cap, cur, rfl, _, hh, hc, hm, hs, hx⟩
  · obtain rfl : ds = [] := List.eq_nil_of_length_eq_zero h0; refine (deleteDots_none w none 0 _).mono ?_; rintro e w' ⟨rfl, rfl⟩; exact ⟨_, rfl, World.ownsRow_nil _ _ _ _, rfl, Off.refl _ _⟩
  · obtain ⟨ws, hws⟩ := lift_wd hds; have hwl : ws.length = ds.length := by rw [← hws, List.length_map]
    rw [← hws, ← flatW, List.length_map] at hx; have hH : HoldsK Wd.cells 3 w bd 0 ws.toArray := holds_of_row hh hx; obtain ⟨n1, n2, n3, n4, n5⟩ := hne bd rfl
    have := deleteDots_some w bd cap 107 #[.pointer (some ⟨kv, 0, none⟩), .pointer (some ⟨ka, 0, none⟩), .pointer (some ⟨ko, 0, none⟩)] (fun x => spB V T tx x.1) ws.toArray (enters_of Tryz.func107 (by kernel_rfl) rfl) (fun W => Off [bd] w W ∧ ∃ cur, W.heap[bd]? = some (.cells cur 87 (0, 0)) ∧ cur.size = cap * 3) ⟨Off.refl _ _, cur, hh, hs⟩
      (fun W W' ⟨h1, c, h3, h4⟩ hb => ⟨h1.trans (Off.of_below hb), c, by rw [hb.block _ (lt_of_heapQ h3)]; exact h3, h4⟩)
      (fun W o vs ⟨h1, h3⟩ => ⟨h1.trans (Off.cells (List.mem_singleton.2 rfl) o vs), setCells_same bd 87 vs o W _ h3⟩)
      (fun W x ⟨h1, _⟩ => by
        have up : ∀ {a : Addr} {v : Value}, w.cell? a = some v → bd ≠ a.block → W.cell? a = some v := fun {a v} ha hv => h1.cell ha fun e => hv (List.mem_singleton.1 e).symm
        exact spent_ok W x.1 kv ka ko vp db mb g n m V T tx x.2 ht (up c1 n1) (up c2 n2) (up c3 n3) (up c4 n4) (up c5 n5)
          (hV.kept h1.grown1 fun e => by obtain ⟨D, hD, _⟩ := hV; exact cells_ne_map hD hh (Option.some.inj e).symm)
          (hT.kept h1.grown1 fun e => hT.ne hh (Option.some.inj e).symm))
      (lt_of_heapQ hh) hH (by simp; omega) (by simp; omega)
    simp only [List.size_toArray, hwl] at this; refine this.mono ?_; rintro e w' ⟨rfl, h1, h2, cur', h3, h4⟩; have ef : (ws.filter fun x => !spB V T tx x.1).map (·.1) = ds.filter fun d => !spB V T tx d := by rw [wd_filter (fun d => !spB V T tx d) ws, hws]
    have el : (ws.filter fun x => !spB V T tx x.1).length = (ds.filter fun d => !spB V T tx d).length := by rw [← ef, List.length_map]
    have hfl : (ds.filter fun d => !spB V T tx d).length ≤ ds.length := List.length_filter_le _ _; refine ⟨_, rfl, ⟨?_, .inr ⟨bd, cap, cur', by rw [el], Nat.zero_le _, h3, by omega, hm, h4, ?_⟩⟩, rfl, h2⟩
    · rw [← ef, ← flatW]
      have : ∀ ws : List Wd, (ws.flatMap Wd.cells).length = ws.length * 3 := fun ws => by
        induction ws with
        | nil => rfl
        | cons x r ih => rw [List.flatMap_cons, List.length_append, ih, Wd.cells_length, List.length_cons]; omega
      rw [this, List.length_map]
    · have := row_of_holds h3 (by simpa using h1); rw [el] at this; rw [this, ← ef, ← flatW]
end Go.Proofs.YtdnebclemngdcaaGreatDoor
namespace Go.Proofs.YtdnebclemngdcaaGreatDoor
open Go.RowKit Go.Maps Go.Sort
set_option maxRecDepth 100000
set_option linter.unusedSectionVars false
variable [Inhabited ComV] [DecidableEq D3] [Inhabited D3] [Inhabited Dd] [Inhabited Dn] [Inhabited OpV]

def dnR (E : Nat → OpV) (r : Rp) : Dn := ⟨E r.g, ⟨r.pl, r.wn.getD r.pl.toNat 0, (E r.g).at_⟩, sum r.wn⟩
theorem cmp_core (s1 s2 p q t1 t2 t3 t4 a b c : Int) (hc : c < 0 ↔ a < b) (h : p = q → t3 = t2 ∧ t4 = t1) :
    ((if (decide (s1 < s2) || (decide (s1 = s2) && decide (p < q)) || (decide (s1 = s2) && decide (p = q) && decide (t1 < t3))) = true then (-1 : Int) else if (decide (s2 < s1) || (decide (s2 = s1) && decide (q < p)) || (decide (s2 = s1) && decide (q = p) && decide (t2 < t4))) = true then 1 else c) < 0) ↔ (s1 < s2 ∨ s1 = s2 ∧ (p < q ∨ p = q ∧ (t1 < t2 ∨ t1 = t2 ∧ a < b))) := by
  simp only [Bool.or_eq_true, Bool.and_eq_true, decide_eq_true_eq]
  by_cases hp : p = q
  · obtain ⟨h1, h2⟩ := h hp; subst h1 h2 hp
    split
    · omega
    · split
      · omega
      · rw [hc]; omega
  · split
    · omega
    · split
      · omega
      · rw [hc]; omega
theorem cmpR_lt (E : Nat → OpV) (x y : Rp) : ltOf (fun a b => cmpR E a b) x y = ltN (dnR E x) (dnR E y) := by
  have := cmp_core (sum x.wn) (sum y.wn) x.pl y.pl (x.wn.getD x.pl.toNat 0) (y.wn.getD y.pl.toNat 0) (y.wn.getD x.pl.toNat 0) (x.wn.getD y.pl.toNat 0) (E x.g).at_ (E y.g).at_ _ (cmpI_lt (E x.g).at_ (E y.g).at_) (fun h => by rw [h]; exact ⟨rfl, rfl⟩); unfold ltOf cmpR aheadB ltN ltD dnR; rw [Bool.eq_iff_iff, decide_eq_true_eq, decide_eq_true_eq, decide_eq_true_eq]; exact this
theorem swoN : SWO ltN where
  irrefl x := by simp [ltN, ltD]
  trans x y z h1 h2 := by simp only [ltN, ltD, decide_eq_true_eq] at *; omega
  ntrans x y z h1 h2 := by simp only [ltN, ltD, decide_eq_true_eq, decide_eq_false_iff_not] at *; omega
theorem sortW_block {α : Type} [Inhabited α] (enc : α → List Value) (k : Nat) (w : World) (blk n : Nat) (d : Array α) (os : Array Obj) (i : Nat) (hi : i < w.heap.size) (hne : i ≠ blk) : (sortWorldK enc k w blk 0 n d os).heap[i]? = w.heap[i]? := by
  unfold sortWorldK; rw [heap_grow_old _ _ (by unfold putRowK putRow mapBlock; simp [Sort.ahead]; omega)]; unfold putRowK putRow mapBlock; simp only [Sort.ahead]; simp [Array.getElem?_modify, Ne.symm hne]
theorem sortW_same {α : Type} [Inhabited α] (enc : α → List Value) (k : Nat) (w : World) (blk n : Nat) (d : Array α) (os : Array Obj) {cur : Array Value} {t : TypeId} (h : w.heap[blk]? = some (.cells cur t (0, 0))) : ∃ cur', (sortWorldK enc k w blk 0 n d os).heap[blk]? = some (.cells cur' t (0, 0)) ∧ cur'.size = cur.size := by
  have hb := lt_of_heapQ h; refine ⟨putCells id 0 (flatK enc k d) cur, ?_, by simp [putCells]⟩; unfold sortWorldK; rw [heap_grow_old _ _ (by unfold putRowK putRow mapBlock; simp [Sort.ahead]; omega)]; unfold putRowK putRow mapBlock; simp only [Sort.ahead, Array.getElem?_modify, h]; simp [onCells]
theorem sortW_off {α : Type} [Inhabited α] (enc : α → List Value) (k : Nat) (w : World) (blk n : Nat) (d : Array α) (os : Array Obj) : Off [blk] w (sortWorldK enc k w blk 0 n d os) :=
  ⟨rfl, rfl, rfl, by unfold sortWorldK putRowK putRow mapBlock; simp [Sort.ahead, grow], fun i hi hg => sortW_block enc k w blk n d os i hi fun e => hg (List.mem_singleton.2 e)⟩
theorem holdsR_iff {α : Type} [Inhabited α] {enc : α → List Value} {w : World} {g : Nat} {d : Array α} : HoldsK enc 3 w g 0 d ↔ ∀ j, j < d.size → ∀ i, i < 3 → w.cell? ⟨g, j * 3 + i, none⟩ = some ((enc d[j]!)[i]!) ∧ w.frozen? ⟨g, j * 3 + i, none⟩ = false := by
  constructor
  · intro h j hj i hi; have := h (j * 3 + i) (by rw [size_flatK]; omega); rw [get_flatK _ _ _ _ (by omega), show (j * 3 + i) / 3 = j by omega, show (j * 3 + i) % 3 = i by omega, Nat.zero_add] at this; exact this
  · intro h t ht; rw [size_flatK] at ht; rw [get_flatK _ _ _ _ ht, Nat.zero_add]; have := h (t / 3) (by omega) (t % 3) (by omega); rw [show t / 3 * 3 + t % 3 = t by omega] at this; exact this
theorem flat_at {α : Type} (enc : α → List Value) (hk : ∀ x, (enc x).length = 3) : ∀ (l : List α) {j i : Nat} {x : α}, l[j]? = some x → i < 3 → (l.flatMap enc)[j * 3 + i]? = (enc x)[i]?
  | [], _, _, _, h, _ => by simp at h
  | y :: r, 0, i, x, h, hi => by
    obtain rfl : y = x := by simpa using h
    rw [List.flatMap_cons, List.getElem?_append_left (by rw [hk]; omega)]; simp
  | y :: r, j + 1, i, x, h, hi => by
    rw [List.flatMap_cons, List.getElem?_append_right (by rw [hk]; omega), hk, show (j + 1) * 3 + i - 3 = j * 3 + i by omega]; exact flat_at enc hk r (by simpa using h) hi
theorem flat_len {α : Type} (enc : α → List Value) (hk : ∀ x, (enc x).length = 3) (l : List α) : (l.flatMap enc).length = l.length * 3 := by
  induction l with
  | nil => rfl
  | cons x r ih => rw [List.flatMap_cons, List.length_append, ih, hk, List.length_cons]; omega
theorem holds_rows {α : Type} [Inhabited α] (enc : α → List Value) (hk : ∀ x, (enc x).length = 3) {w : World} {g : Nat} {cur : Array Value} {t : TypeId} {l : List α} (h : w.heap[g]? = some (.cells cur t (0, 0))) (ht : cur.toList.take (l.length * 3) = l.flatMap enc) : HoldsK enc 3 w g 0 l.toArray := by
  rw [holdsR_iff]; intro j hj i hi; have hj' : j < l.length := by simpa using hj
  have hx : l[j]? = some l.toArray[j]! := by rw [getElem!_pos l.toArray j hj]; simp
  have e := flat_at enc hk l hx hi; rw [← ht, List.getElem?_take, if_pos (by omega), Array.getElem?_toList] at e; refine ⟨?_, ?_⟩
  · simp only [World.cell?, h]; rw [getElem!_pos (enc l.toArray[j]!) i (by rw [hk]; exact hi)]; rw [List.getElem?_eq_getElem (by rw [hk]; exact hi)] at e
    simpa using e
  · simp only [World.frozen?, h]; simp
theorem rows_holds {α : Type} [Inhabited α] (enc : α → List Value) (hk : ∀ x, (enc x).length = 3) {w : World} {g : Nat} {cur : Array Value} {t : TypeId} {l : List α} (h : w.heap[g]? = some (.cells cur t (0, 0))) (hh : HoldsK enc 3 w g 0 l.toArray) : cur.toList.take (l.length * 3) = l.flatMap enc := by
  refine List.ext_getElem? fun q => ?_
  have hl := flat_len enc hk l
  by_cases hq : q < l.length * 3
  · have hj : q / 3 < l.length := by omega
    have e1 := (holdsR_iff.1 hh (q / 3) (by simpa using hj) (q % 3) (by omega)).1; rw [show q / 3 * 3 + q % 3 = q by omega] at e1; simp only [World.cell?, h] at e1; have hx : l[q / 3]? = some l.toArray[q / 3]! := by rw [getElem!_pos l.toArray (q / 3) (by simpa using hj)]; simp
    have e2 := flat_at enc hk l hx (i := q % 3) (by omega); rw [show q / 3 * 3 + q % 3 = q by omega] at e2; rw [e2, List.getElem?_take, if_pos hq, Array.getElem?_toList]; rw [getElem!_pos (enc l.toArray[q / 3]!) (q % 3) (by rw [hk]; omega)] at e1; rw [List.getElem?_eq_getElem (by rw [hk]; omega)]
    simpa using e1
  · rw [List.getElem?_eq_none (by rw [List.length_take]; omega), List.getElem?_eq_none (by omega)]
theorem sortParts (A : Nat → Addr) (w : World) (hE : E4 A w) (h12 : 12 ≤ w.heap.size) (E : Nat → OpV) (nb B : Nat) (v : Value) (rs : List Rp) (hv : RowR w B v rs) (hB : 12 ≤ B) (hsz : rs.length ≤ 1000) (hfit : ∀ r ∈ rs, CmpFit w E nb r) (hvec : ∀ r ∈ rs, ∀ b, v.ownBlock = some b → b ≠ r.g ∧ ∀ a, r.wa = some a → b ≠ a.block) :
    Calls Tryz.prog 69 #[v, .func (.func 70) #[] #[]] w fun e w' => e = .returned (.tuple #[]) ∧ ∃ ss : List Rp, ss.Perm rs ∧ (ss.map (dnR E)).Pairwise (fun a b => ltN b a = false) ∧ RowR w' B v ss ∧ Off (ownL v) w w' := by
  rcases hv.2 with ⟨rfl, h0⟩ | ⟨g, cap, cur, rfl, hg, hh, hc, hm, hs, ht⟩
  · obtain rfl : rs = [] := List.eq_nil_of_length_eq_zero h0; have hn := AnyF.slices_SortFunc_none (P := Tryz.prog) (ρ := Tryz.sortCom_ren) { Tryz.sortCom with } none 0 (.func (.func 70) #[] #[]) w
    change Calls Tryz.prog 69 _ _ _ at hn
    refine hn.mono ?_; rintro e w' ⟨rfl, rfl⟩; exact ⟨rfl, [], List.Perm.refl _, List.Pairwise.nil, RowR.nil _ _, Off.refl _ _⟩
  · cases rs with
    | nil =>
      have hn := AnyF.slices_SortFunc_none (P := Tryz.prog) (ρ := Tryz.sortCom_ren) { Tryz.sortCom with } (some ⟨g, 0, none⟩) cap (.func (.func 70) #[] #[]) w
      change Calls Tryz.prog 69 _ _ _ at hn
      refine hn.mono ?_; rintro e w' ⟨rfl, rfl⟩; exact ⟨rfl, [], List.Perm.refl _, List.Pairwise.nil, hv, Off.refl _ _⟩
    | cons r0 rs0 =>
      obtain ⟨rs, hrs⟩ : ∃ rs, rs = r0 :: rs0 := ⟨_, rfl⟩; rw [← hrs] at hv hsz hfit hvec hc ht ⊢
      haveI : Inhabited { r : Rp // r ∈ rs } := ⟨⟨r0, by rw [hrs]; simp⟩⟩
      have hat : (rs.attach.map (·.1)) = rs := by simp
      have hal : rs.attach.length = rs.length := by simp
      have enc1 : ∀ l : List { r : Rp // r ∈ rs }, l.flatMap (fun x => x.1.cells) = (l.map (·.1)).flatMap Rp.cells := fun l => by
        induction l with
        | nil => rfl
        | cons x r ih => rw [List.flatMap_cons, List.map_cons, List.flatMap_cons, ih]
      have hH : HoldsK (fun x : { r : Rp // r ∈ rs } => x.1.cells) 3 w g 0 rs.attach.toArray := holds_rows _ (fun _ => rfl) hh (by rw [hal, ht, enc1, hat])
      have hlt : ltOf (fun x y : { r : Rp // r ∈ rs } => cmpR E x.1 y.1) = fun x y => ltN (dnR E x.1) (dnR E y.1) := by
        funext x y; exact cmpR_lt E x.1 y.1
      have hcon := AnyQ.slices_SortFunc Tryz.sortCom 3 Tryz.isAgg34 Tryz.sizeOf34 (fun x : { r : Rp // r ∈ rs } => x.1.cells) (fun _ => rfl) (fun x => x.1.one) (fun x y => cmpR E x.1 y.1) (by rw [hlt]; exact ⟨fun x => swoN.irrefl _, fun x y z => swoN.trans _ _ _, fun x y z => swoN.ntrans _ _ _⟩) 70 #[] g 0 cap rs.attach.toArray w (enters_of Tryz.func70 (by kernel_rfl) rfl)
        (fun m os dk _ x y => by
          have hoff := sortW_off (fun x : { r : Rp // r ∈ rs } => x.1.cells) 3 w g m dk os; have hcell : ∀ {a : Addr} {u : Value}, w.cell? a = some u → g ≠ a.block → (sortWorldK (fun x : { r : Rp // r ∈ rs } => x.1.cells) 3 w g 0 m dk os).cell? a = some u := fun {a u} ha hne => hoff.cell ha fun e => hne (List.mem_singleton.1 e).symm
          have fit : ∀ z : { r : Rp // r ∈ rs }, CmpFit (sortWorldK (fun x : { r : Rp // r ∈ rs } => x.1.cells) 3 w g 0 m dk os) E nb z.1 := fun z => by
            obtain ⟨f1, f2, f3, f4, f5, f6⟩ := hfit z.1 z.2; obtain ⟨n1, n2⟩ := hvec z.1 z.2 g rfl; refine ⟨?_, f2, f3, f4, f5, hcell f6 n1⟩; obtain ⟨ad, c, e, h0, h1⟩ := f1; refine ⟨ad, c, e, h0, ?_⟩; rcases h1 with h1 | ⟨b, o, e1, h1⟩
            · exact .inl h1
            · refine .inr ⟨b, o, e1, fun t ht => hcell (h1 t ht) ?_⟩; injection e with e2 _ _; exact n2 ⟨b, o, none⟩ (by rw [e2, e1])
          have hE' : E4 A (sortWorldK (fun x : { r : Rp // r ∈ rs } => x.1.cells) 3 w g 0 m dk os) := ⟨hcell hE.bound (by show g ≠ 0; omega), hcell hE.shape (by show g ≠ 3; omega), hcell hE.name (by show g ≠ 5; omega), hcell hE.kind (by show g ≠ 11; omega)⟩; exact compareParts_ok A _ hE' (Nat.le_trans h12 hoff.size) E nb x.1 y.1 (fit x) (fit y)) hH (lt_of_heapQ hh) (by simp; omega)
      change Calls Tryz.prog 69 _ _ _ at hcon
      rw [hlt] at hcon; simp only [List.size_toArray, hal] at hcon; refine hcon.mono ?_; rintro e w' ⟨rfl, d', n, os, hp, hsd, rfl⟩; have hp' : PermIn 0 rs.attach.toArray.size rs.attach.toArray d' := by simpa using hp
      have hsz' : d'.size = rs.length := by have := hp'.1; simpa using this
      have hh' := holdsK_sortWorldK (fun x : { r : Rp // r ∈ rs } => x.1.cells) 3 w g 0 n rs.attach.toArray d' os (lt_of_heapQ hh) hH (by simpa using hsz'); obtain ⟨cur', hc1, hc2⟩ := sortW_same (fun x : { r : Rp // r ∈ rs } => x.1.cells) 3 w g n d' os hh; have hrow := rows_holds (fun x : { r : Rp // r ∈ rs } => x.1.cells) (fun _ => rfl) (l := d'.toList) hc1 (by simpa using hh'); have hpm := perm_of_permIn hp'; have hpw := pairwise_of_sortedIn (lt := fun x y : { r : Rp // r ∈ rs } => ltN (dnR E x.1) (dnR E y.1)) (d := d') (by rw [hsz']; exact hsd); refine ⟨rfl, d'.toList.map (·.1), ?_, ?_, ⟨?_, .inr ⟨g, cap, cur', ?_, hg, hc1, ?_, hm, by rw [hc2]; exact hs, ?_⟩⟩, ?_⟩
      · have := hpm.map (·.1)
        simpa using this
      · rw [List.pairwise_map, List.pairwise_map]; exact hpw
      · rw [flatR_length]
      · have hll : d'.toList.length = rs.length := by simpa using hsz'
        rw [List.length_map, hll]
      · have hll : d'.toList.length = rs.length := by simpa using hsz'
        rw [List.length_map, hll]; exact hc
      · rw [List.length_map, hrow, enc1]
      · exact sortW_off _ _ _ _ _ _ _
end Go.Proofs.YtdnebclemngdcaaGreatDoor
namespace Go.Proofs.YtdnebclemngdcaaGreatDoor
open Go.RowKit Go.Maps
set_option maxRecDepth 100000
set_option linter.unusedSectionVars false
variable [Inhabited ComV] [DecidableEq D3] [Inhabited D3] [Inhabited Dd] [Inhabited Dn] [Inhabited OpV]

def withDots (f : OpV → List D3) (o : OpV) : OpV := { o with dots := f o }
def trimK (f : OpV → List D3) (E : Nat → OpV) (rs : List Rp) (k : Nat) : Nat → OpV := fun g => if g ∈ (rs.take k).map (·.g) then withDots f (E g) else E g
theorem trimK_zero (f : OpV → List D3) (E : Nat → OpV) (rs : List Rp) : trimK f E rs 0 = E := by
  funext g
  unfold trimK; rw [List.take_zero, List.map_nil, if_neg (by simp)]
theorem trimK_new {f : OpV → List D3} {E : Nat → OpV} {rs : List Rp} {k : Nat} {r : Rp} (h : rs[k]? = some r) : trimK f E rs (k + 1) r.g = withDots f (E r.g) := by
  unfold trimK; rw [take_snocQ h, List.map_append, if_pos (by simp)]
theorem trimK_other {f : OpV → List D3} {E : Nat → OpV} {rs : List Rp} {k : Nat} {r : Rp} (h : rs[k]? = some r) {g : Nat} (hg : g ≠ r.g) : trimK f E rs (k + 1) g = trimK f E rs k g := by
  unfold trimK; rw [take_snocQ h, List.map_append]
  have : (g ∈ (rs.take k).map (·.g) ++ [r].map (·.g)) ↔ g ∈ (rs.take k).map (·.g) := by
    rw [List.mem_append]; exact ⟨fun x => x.resolve_right fun y => hg (by simpa using y), .inl⟩
  simp only [this]
theorem trimK_old {f : OpV → List D3} {E : Nat → OpV} {rs : List Rp} {k : Nat} {r : Rp} (hn : (rs.map (·.g)).Nodup) (h : rs[k]? = some r) : trimK f E rs k r.g = E r.g := by
  unfold trimK; refine if_neg fun hm => ?_
  obtain ⟨q, hq, e⟩ := List.mem_map.1 hm; obtain ⟨i, hi, rfl⟩ := List.getElem_of_mem hq; obtain ⟨hk, rfl⟩ := List.getElem?_eq_some_iff.1 h; rw [List.length_take] at hi; rw [List.getElem_take] at e; rw [List.nodup_iff_pairwise_ne, List.pairwise_map, List.pairwise_iff_getElem] at hn; exact hn i k (by omega) hk (by omega) e
def blocksG (rs : List Rp) (D : Nat → Value) : List Nat := rs.map (·.g) ++ rs.flatMap fun r => ownL (D r.g)
structure SpW (f : OpV → List D3) (w : World) (rs : List Rp) (E : Nat → OpV) (D : Nat → Value) (k : Nat) (Dk : Nat → Value) (wr : World) : Prop where
  ops : OpsM wr rs (trimK f E rs k) Dk
  dots : ∀ r ∈ rs, DotsO wr (Dk r.g) (trimK f E rs k r.g).dots
  own : ∀ r ∈ rs, (Dk r.g).ownBlock = (D r.g).ownBlock
  off : Off (blocksG rs D) w wr
theorem SpW.start {f : OpV → List D3} {w wr : World} {rs : List Rp} {E : Nat → OpV} {D : Nat → Value} (h1 : OpsM w rs E D) (h2 : ∀ r ∈ rs, DotsO w (D r.g) (E r.g).dots) (hb : Below w.heap.size w wr) : SpW f w rs E D 0 D wr := by
  refine ⟨?_, ?_, fun _ _ => rfl, Off.of_below hb⟩
  · rw [trimK_zero]; exact h1.below hb
  · rw [trimK_zero]; exact fun r hr => (h2 r hr).below hb
theorem SpW.moved {f : OpV → List D3} {w wr w' : World} {rs : List Rp} {E : Nat → OpV} {D Dk : Nat → Value} {k : Nat} (h : SpW f w rs E D k Dk wr) (hb : Below wr.heap.size wr w') : SpW f w rs E D k Dk w' := ⟨h.ops.below hb, fun r hr => (h.dots r hr).below hb, h.own, h.off.trans (Off.of_below hb)⟩
def updD (D : Nat → Value) (g : Nat) (v : Value) : Nat → Value := fun i => if i = g then v else D i
theorem DotsO.ne {w : World} {v : Value} {ds : List D3} {g : Nat} {cs : Array Value} {t : TypeId} (h : DotsO w v ds) (hg : w.heap[g]? = some (.cells cs t (0, 0))) (ht : t ≠ 87) : v.ownBlock ≠ some g := fun e => by
  rcases h.2 with ⟨rfl, _⟩ | ⟨b, cap, cur, rfl, _, hh, _⟩
  · cases e
  · obtain rfl : b = g := Option.some.inj e; rw [hh] at hg; injection hg with hg; injection hg with _ hg; exact ht hg.symm
theorem DotsO.kept {w w' : World} {v : Value} {ds : List D3} (h : DotsO w v ds) (hk : ∀ b, v.ownBlock = some b → w'.heap[b]? = w.heap[b]?) : DotsO w' v ds := by
  refine ⟨h.1, ?_⟩; rcases h.2 with h0 | ⟨b, cap, cur, hv, h1, hh, h2⟩
  · exact .inl h0
  · exact .inr ⟨b, cap, cur, hv, h1, by rw [hk b (by rw [hv]; rfl)]; exact hh, h2⟩
theorem mem_ownL {v : Value} {b : Nat} : b ∈ ownL v ↔ v.ownBlock = some b := by
  unfold ownL
  cases v.ownBlock with
  | none => simp
  | some x => simp [eq_comm]
theorem SpW.step {f : OpV → List D3} {w W w5 : World} {rs : List Rp} {E : Nat → OpV} {D Dk : Nat → Value} {k : Nat} {r : Rp} {dv : Value} (h : SpW f w rs E D k Dk W) (hr : rs[k]? = some r) (hn : (rs.map (·.g)).Nodup)
    (ha : ∀ q ∈ rs, ∀ q' ∈ rs, q.g ≠ q'.g → ∀ b, (D q.g).ownBlock = some b → (D q'.g).ownBlock ≠ some b) (ho : Off (ownL (Dk r.g)) W w5) (hd : DotsO w5 dv (f (E r.g))) (hv : dv.ownBlock = (Dk r.g).ownBlock) : SpW f w rs E D (k + 1) (updD Dk r.g dv) (w5.setCell ⟨r.g, 6, none⟩ dv) := by
  have hmem := List.mem_of_getElem? hr; have h5 : ∀ q ∈ rs, w5.heap[q.g]? = W.heap[q.g]? := fun q hq => ho.block _ (lt_of_heapQ (h.ops q hq)) fun e => (h.dots r hmem).ne (h.ops q hq) (by decide) (mem_ownL.1 e)
  have hg5 := (h5 r hmem).trans (h.ops r hmem); have same : ∀ q ∈ rs, q.g ≠ r.g → (w5.setCell ⟨r.g, 6, none⟩ dv).heap[q.g]? = W.heap[q.g]? := fun q hq e => by rw [Below.heap_setCell _ _ _ _ e, h5 q hq]
  refine ⟨fun q hq => ?_, fun q hq => ?_, fun q hq => ?_, ?_⟩
  · by_cases e : q.g = r.g
    · rw [e, heap_setQ hg5, trimK_new hr, trimK_old hn hr]; unfold updD; rw [if_pos rfl]; rfl
    · rw [same q hq e, trimK_other hr e, h.ops q hq]; unfold updD; rw [if_neg e]
  · by_cases e : q.g = r.g
    · rw [e, trimK_new hr]; unfold updD; rw [if_pos rfl]; exact hd.kept fun b hb => Below.heap_setCell _ _ _ _ fun x => hd.ne hg5 (by decide) (by have x' : b = r.g := x; rw [hb, x'])
    · rw [trimK_other hr e]; unfold updD; rw [if_neg e]; refine (h.dots q hq).kept fun b hb => ?_
      have hb1 : b < W.heap.size := by
        rcases (h.dots q hq).2 with ⟨hv, _⟩ | ⟨b', cap, cur, hv, _, hh, _⟩
        · rw [hv] at hb; cases hb
        · rw [hv] at hb; obtain rfl : b' = b := Option.some.inj hb; exact lt_of_heapQ hh
      rw [Below.heap_setCell _ _ _ _ fun x => (h.dots q hq).ne (h.ops r hmem) (by decide) (by have x' : b = r.g := x; rw [hb, x'])]; refine ho.block b hb1 fun x => ?_
      have := mem_ownL.1 x; rw [h.own r hmem] at this; exact ha r hmem q hq (Ne.symm e) b this (by rw [← h.own q hq]; exact hb)
  · unfold updD
    by_cases e : q.g = r.g
    · rw [if_pos e, hv, h.own r hmem, e]
    · rw [if_neg e]; exact h.own q hq
  · refine (h.off.trans (ho.mono fun i hi => ?_)).trans (Off.set ?_ _ _)
    · refine List.mem_append_right _ (List.mem_flatMap.2 ⟨r, hmem, ?_⟩); rw [mem_ownL] at hi ⊢; rw [← h.own r hmem]; exact hi
    · exact List.mem_append_left _ (List.mem_map.2 ⟨r, hmem, rfl⟩)
theorem not_blocksG {w : World} {rs : List Rp} {E : Nat → OpV} {D : Nat → Value} {b : Nat} {cs : Array Value} {t : TypeId} (h1 : OpsM w rs E D) (h2 : ∀ r ∈ rs, DotsO w (D r.g) (E r.g).dots) (hb : w.heap[b]? = some (.cells cs t (0, 0))) (t1 : t ≠ 76) (t2 : t ≠ 87) : b ∉ blocksG rs D := fun hm => by
  rcases List.mem_append.1 hm with hm | hm
  · obtain ⟨q, hq, e⟩ := List.mem_map.1 hm; have := h1 q hq; rw [e, hb] at this; injection this with this; injection this with _ this; exact t1 this
  · obtain ⟨q, hq, e⟩ := List.mem_flatMap.1 hm; exact (h2 q hq).ne hb t2 (mem_ownL.1 e)
theorem DotsO.block {w : World} {v : Value} {ds : List D3} {b : Nat} (h : DotsO w v ds) (hb : v.ownBlock = some b) : ∃ cs, w.heap[b]? = some (.cells cs 87 (0, 0)) := by
  rcases h.2 with ⟨rfl, _⟩ | ⟨g, cap, cur, rfl, _, hh, _⟩
  · cases hb
  · obtain rfl : g = b := Option.some.inj hb; exact ⟨cur, hh⟩
theorem map_notG {w : World} {rs : List Rp} {E : Nat → OpV} {D : Nat → Value} {b : Nat} {es : Array MapEntry} {clock : Nat} (h1 : OpsM w rs E D) (h2 : ∀ r ∈ rs, DotsO w (D r.g) (E r.g).dots) (hb : w.heap[b]? = some (.map es clock)) : b ∉ blocksG rs D := fun hm => by
  rcases List.mem_append.1 hm with hm | hm
  · obtain ⟨q, hq, e⟩ := List.mem_map.1 hm; have := h1 q hq; rw [e, hb] at this; cases this
  · obtain ⟨q, hq, e⟩ := List.mem_flatMap.1 hm; obtain ⟨cs, hcs⟩ := (h2 q hq).block (mem_ownL.1 e); rw [hb] at hcs; cases hcs
theorem TgtAt.off {w w' : World} {mb n : Nat} {T : List (D3 × ByteArray)} {G : List Nat} (h : TgtAt w mb n T) (ho : Off G w w') (hn : mb ∉ G) : TgtAt w' mb n T := by
  have hlt := h.lt; obtain ⟨D, ⟨es, clock, hb, F, hs, hD⟩, h2⟩ := h; exact ⟨D, ⟨es, clock, (ho.block mb hlt hn).trans hb, F, hs, hD⟩, h2⟩
theorem DotSet.off {w w' : World} {db n : Nat} {V : D3 → Bool} {G : List Nat} (h : DotSet w db n V) (ho : Off G w w') (hn : db ∉ G) : DotSet w' db n V := by
  obtain ⟨D, h1, h2⟩ := h; have hlt := h1.lt; obtain ⟨es, clock, hb, F, hs, hD⟩ := h1; exact ⟨D, ⟨es, clock, (ho.block db hlt hn).trans hb, F, hs, hD⟩, h2⟩
theorem TgtAt.obj {w : World} {mb n : Nat} {T : List (D3 × ByteArray)} (h : TgtAt w mb n T) : ∃ es clock, w.heap[mb]? = some (.map es clock) := let ⟨_, h1, _⟩ := h; map_obj h1
theorem DotSet.obj {w : World} {mb n : Nat} {V : D3 → Bool} (h : DotSet w mb n V) : ∃ es clock, w.heap[mb]? = some (.map es clock) := let ⟨_, h1, _⟩ := h; map_obj h1
theorem RowR.type {w : World} {base b n c : Nat} {rs : List Rp} (h : RowR w base (.slice (some ⟨b, 0, none⟩) n c) rs) : ∃ cur, w.heap[b]? = some (.cells cur 34 (0, 0)) := by
  rcases h.2 with ⟨h0, _⟩ | ⟨g, cap, cur, hv, _, hh, _⟩
  · cases h0
  · cases hv; exact ⟨cur, hh⟩
theorem not_ownL {w : World} {v : Value} {ds : List D3} {b : Nat} {o : Obj} (h : DotsO w v ds) (hb : w.heap[b]? = some o) (ho : ∀ cs, o ≠ .cells cs 87 (0, 0)) : b ∉ ownL v := fun hm => by
  obtain ⟨cs, hcs⟩ := h.block (mem_ownL.1 hm); rw [hb] at hcs; exact ho cs (Option.some.inj hcs)
end Go.Proofs.YtdnebclemngdcaaGreatDoor
namespace Go.Proofs.YtdnebclemngdcaaGreatDoor
open Go.RowKit Go.Maps
set_option maxRecDepth 100000
set_option linter.unusedSectionVars false
variable [Inhabited ComV] [DecidableEq D3] [Inhabited D3] [Inhabited Dd] [Inhabited Dn] [Inhabited OpV]

def addsT (E : Nat → OpV) (l : List Rp) : List (D3 × ByteArray) := (l.filter (isAddQ E)).map fun r => (dotR E r, (E r.g).text)
theorem addsT_snoc (E : Nat → OpV) {l : List Rp} {k : Nat} {r : Rp} (h : l[k]? = some r) : addsT E (l.take (k + 1)) = addsT E (l.take k) ++ (if isAddQ E r then [(dotR E r, (E r.g).text)] else []) := by
  unfold addsT; rw [take_snocQ h, List.filter_append, List.map_append]
  congr 1
  by_cases hr : isAddQ E r = true
  · simp [hr]
  · simp [hr]
def accQ (E : Nat → OpV) (rs os : List Rp) : Nat → List (D3 × ByteArray)
  | 0 => []
  | 1 => addsT E rs
  | _ => addsT E rs ++ addsT E os
theorem OffHeap {w w' : World} {mb n : Nat} {T : List (D3 × ByteArray)} (h : TgtAt w mb n T) (hg : w.grownBy w' (some mb)) {b : Nat} {cs : Array Value} {t : TypeId} (hb : w.heap[b]? = some (.cells cs t (0, 0))) : w'.heap[b]? = some (.cells cs t (0, 0)) := by
  rw [hg.block _ (lt_of_heapQ hb) fun e => h.ne hb (Option.some.inj e)]; exact hb
structure BothOk (w : World) (E : Nat → OpV) (D : Nat → Value) (l : List Rp) : Prop where
  ops : OpsM w l E D
  dots : ∀ r ∈ l, DotsO w (D r.g) (E r.g).dots
  fit : ∀ r ∈ l, OpFit (E r.g)
  vec : ∀ r ∈ l, RpFit w E r
structure AddW (w w0 : World) (mb n : Nat) (T : List (D3 × ByteArray)) (wr : World) : Prop where
  inv : TInv w mb T n wr
  grown : w0.grownBy wr (some mb)
theorem AddW.moved {w w0 wr w' : World} {mb n : Nat} {T : List (D3 × ByteArray)} (h : AddW w w0 mb n T wr) (hb : Below wr.heap.size wr w') : AddW w w0 mb n T w' := ⟨h.inv.moved hb, grown_transQ h.grown (grown_belowQ _ hb)⟩
theorem alloc4 (w : World) (a b c d : Obj) : ((((w.alloc a).alloc b).alloc c).alloc d).heap.size = w.heap.size + 1 + 1 + 1 + 1 ∧ ((((w.alloc a).alloc b).alloc c).alloc d).heap[w.heap.size]? = (w.alloc a).heap[w.heap.size]? ∧ ((((w.alloc a).alloc b).alloc c).alloc d).heap[w.heap.size + 1 + 1]? = (((w.alloc a).alloc b).alloc c).heap[w.heap.size + 1 + 1]? := by
  refine ⟨by simp, ?_, ?_⟩
  · rw [(MapKept.heap_alloc _ _).2 _ (by simp; omega), (MapKept.heap_alloc _ _).2 _ (by simp; omega), (MapKept.heap_alloc _ _).2 _ (by simp)]
  · rw [(MapKept.heap_alloc _ _).2 _ (by simp)]
theorem spent_app {f : OpV → List D3} {w w6 W' : World} {rs : List Rp} {E : Nat → OpV} {D Dk : Nat → Value} {k kv ka mb n m : Nat} {v : Value} {xs : List Value} {T : List (D3 × ByteArray)} {c1 c2 : Array Value} (hr : w6.ownsRow w.heap.size 34 3 v m xs) (hs : SpW f w rs E D k Dk w6) (h1 : w6.heap[kv]? = some (.cells c1 26 (0, 0))) (h2 : w6.heap[ka]? = some (.cells c2 154 (0, 0))) (hT : TgtAt w6 mb n T) (o : Obj) (hg : (w6.alloc o).grownBy W' v.ownBlock) :
    SpW f w rs E D k Dk W' ∧ W'.heap[kv]? = some (.cells c1 26 (0, 0)) ∧ W'.heap[ka]? = some (.cells c2 154 (0, 0)) ∧ TgtAt W' mb n T := by
  have hb := below_alloc w6 o; have hr' := owns_belowQ hr hb
  have keep : ∀ {i : Nat} {p : Obj}, w6.heap[i]? = some p → (∀ cs, p ≠ .cells cs 34 (0, 0)) → W'.heap[i]? = some p := fun {i p} hi hp => by
    have hi' := (hb.block _ (lt_of_heapQ hi)).trans hi
    rw [hg.block _ (lt_of_heapQ hi') fun e => by
      obtain ⟨cs, hcs⟩ := own_type hr' e.symm; rw [hi'] at hcs; exact hp cs (Option.some.inj hcs)]
    exact hi'
  refine ⟨⟨fun q hq => keep (hs.ops q hq) (fun cs e => by injection e with _ e; cases e), fun q hq => (hs.dots q hq).kept fun b hbq => ?_, hs.own, ?_⟩, keep h1 (fun cs e => by injection e with _ e; cases e), keep h2 (fun cs e => by injection e with _ e; cases e), ?_⟩
  · obtain ⟨cs, hcs⟩ := (hs.dots q hq).block hbq; rw [keep hcs (fun cs e => by injection e with _ e; cases e), hcs]
  · refine ⟨hg.os.trans hs.off.os, hg.tape.trans hs.off.tape, hg.output.trans hs.off.output, Nat.le_trans hs.off.size (Nat.le_trans hb.size hg.size), fun i hi hn => ?_⟩; have hi6 : i < w6.heap.size := Nat.lt_of_lt_of_le hi hs.off.size; rw [hg.block i (Nat.lt_of_lt_of_le hi6 hb.size) fun e => by have := (hr'.lt i e.symm).1; omega, hb.block i hi6, hs.off.block i hi hn]
  · refine (hT.below hb).kept hg fun e => ?_
    obtain ⟨cs, hcs⟩ := own_type hr' e.symm; exact (hT.below hb).ne hcs rfl
def keepD (V : D3 → Bool) (T : List (D3 × ByteArray)) (o : OpV) : List D3 := o.dots.filter fun d => !spB V T o.text d
def spQ (V : D3 → Bool) (T : List (D3 × ByteArray)) (E : Nat → OpV) (i : Nat) (r : Rp) : Bool := decide (i = 0) || (!(E r.g).rem || decide (keepD V T (E r.g) ≠ []))
def SpentRet (V : D3 → Bool) (T : List (D3 × ByteArray)) (rs : List Rp) (E : Nat → OpV) (D : Nat → Value) (w : World) (e : Ending) (w' : World) : Prop := ∃ v D', e = .returned v ∧ RowR w' w.heap.size v (keepL (spQ V T E) 0 rs) ∧ SpW (keepD V T) w rs E D rs.length D' w'
end Go.Proofs.YtdnebclemngdcaaGreatDoor
namespace Go.Proofs.YtdnebclemngdcaaGreatDoor
open Go.RowKit Go.Maps Go.Sort
set_option maxRecDepth 100000
set_option linter.unusedSectionVars false
variable [Inhabited ComV] [DecidableEq D3] [Inhabited D3] [Inhabited Dd] [Inhabited Dn] [Inhabited OpV]

structure PF (E : Nat → OpV) (nb : Nat) (r : Rp) : Prop where
  ok : ComOk (absR E r)
  len : r.wn.length = nb
  text : (E r.g).text.size ≤ 1000
structure PO (w : World) (E : Nat → OpV) (D : Nat → Value) (nb : Nat) (rs : List Rp) : Prop where
  ops : OpsM w rs E D
  dots : ∀ r ∈ rs, DotsO w (D r.g) (E r.g).dots
  ints : ∀ r ∈ rs, IntsT w (.slice r.wa r.wn.length r.wc) r.wn
  pf : ∀ r ∈ rs, PF E nb r
theorem PF.err {E : Nat → OpV} {nb : Nat} {r : Rp} (h : PF E nb r) : opErr (E r.g) r.wn.length = 0 := opErr_of_bad (os := [E r.g]) (i := 0) (h.ok.ops 0 (by simp [absR]))
theorem PF.fit {E : Nat → OpV} {nb : Nat} {r : Rp} (h : PF E nb r) : OpFit (E r.g) := by
  obtain ⟨_, _, _, h4, h5⟩ := opOk h.err; exact ⟨h4, h5, h.text⟩
theorem PF.wf {E : Nat → OpV} {nb : Nat} {r : Rp} (h : PF E nb r) : wf3 (dotR E r) := (dnOf_ok h.ok (o := E r.g) (by simp [absR])).dot
theorem PO.below {w w' : World} {E : Nat → OpV} {D : Nat → Value} {nb : Nat} {rs : List Rp} (h : PO w E D nb rs) (hb : Below w.heap.size w w') : PO w' E D nb rs := ⟨h.ops.below hb, fun r hr => (h.dots r hr).below hb, fun r hr => RowT.kept (h.ints r hr) (keepT_below hb (Nat.le_refl _)), h.pf⟩
theorem PO.sub {w : World} {E : Nat → OpV} {D : Nat → Value} {nb : Nat} {rs rs' : List Rp} (h : PO w E D nb rs) (hs : ∀ r ∈ rs', r ∈ rs) : PO w E D nb rs' := ⟨h.ops.sub hs, fun r hr => h.dots r (hs r hr), fun r hr => h.ints r (hs r hr), fun r hr => h.pf r (hs r hr)⟩
theorem PO.both {w : World} {E : Nat → OpV} {D : Nat → Value} {nb : Nat} {rs : List Rp} (h : PO w E D nb rs) : BothOk w E D rs := ⟨h.ops, h.dots, fun r hr => (h.pf r hr).fit, fun r hr => ⟨(h.ints r hr).at, (h.pf r hr).ok.lo, (h.pf r hr).ok.hi, (h.pf r hr).wf⟩⟩
theorem PO.cmp {w : World} {E : Nat → OpV} {D : Nat → Value} {nb : Nat} {rs : List Rp} (h : PO w E D nb rs) : ∀ r ∈ rs, CmpFit w E nb r := fun r hr => ⟨(h.ints r hr).at, (h.pf r hr).ok.chk, (h.pf r hr).len, (h.pf r hr).ok.lo, (h.pf r hr).ok.hi, (opC_all (h.ops r hr)).1⟩
theorem PO.rows {w w' : World} {E : Nat → OpV} {D : Nat → Value} {nb : Nat} {rs : List Rp} {G : List Nat} (h : PO w E D nb rs) (ho : Off G w w') (hG : ∀ b ∈ G, ∃ cs, w.heap[b]? = some (.cells cs 34 (0, 0))) : PO w' E D nb rs := by
  have keep : ∀ {b : Nat} {cs : Array Value} {t : TypeId}, w.heap[b]? = some (.cells cs t (0, 0)) → t ≠ 34 → w'.heap[b]? = w.heap[b]? := fun {b cs t} hb ht => ho.block _ (lt_of_heapQ hb) fun hm => by
    obtain ⟨cs', h'⟩ := hG b hm; rw [hb] at h'; injection h' with h'; injection h' with _ h'; exact ht h'
  refine ⟨fun r hr => by rw [keep (h.ops r hr) (by decide)]; exact h.ops r hr, fun r hr => (h.dots r hr).kept fun b hb => ?_, fun r hr => RowT.kept (h.ints r hr) fun b cs hb => keep hb (by decide), h.pf⟩; obtain ⟨cs, hcs⟩ := (h.dots r hr).block hb; exact keep hcs (by decide)
theorem opErr_n {o : OpV} {m : Int} (h : opErr o m = 0) (n : Int) (hk : o.kind = 2) (hn : -1099511627776 ≤ n ∧ n ≤ 1099511627776) : opErr { o with n := n } m = 0 := by
  unfold opErr at h ⊢
  split at h
  · exact absurd h (by decide)
  · rename_i h1
    split at h
    · exact absurd h (by decide)
    · rename_i h2
      split at h
      · exact absurd h (by decide)
      · rename_i h3
        split at h
        · exact absurd h (by decide)
        · rename_i h4
          split at h
          · exact absurd h (by decide)
          · rename_i h5
            split at h
            · exact absurd h (by decide)
            · rename_i h6
              rw [if_neg h1, if_neg h2, if_neg h3, if_neg ?_, if_neg ?_, if_neg h6]
              · simp only; omega
              · intro hf; apply h4; unfold foreignB at hf ⊢; simp only [hk] at hf ⊢; exact hf
theorem opErr_dots {o : OpV} {m : Int} (h : opErr o m = 0) (p : D3 → Bool) : opErr { o with dots := o.dots.filter p } m = 0 := by
  have hl : (o.dots.filter p).length ≤ o.dots.length := List.length_filter_le _ _; unfold opErr at h ⊢
  split at h
  · exact absurd h (by decide)
  · rename_i h1
    split at h
    · exact absurd h (by decide)
    · rename_i h2
      split at h
      · exact absurd h (by decide)
      · rename_i h3
        split at h
        · exact absurd h (by decide)
        · rename_i h4
          split at h
          · exact absurd h (by decide)
          · rename_i h5
            split at h
            · exact absurd h (by decide)
            · rename_i h6
              rw [if_neg h1, if_neg h2, if_neg h3, if_neg ?_, if_neg ?_, if_neg ?_]
              · intro hf; apply h6; rw [List.all_eq_false] at hf ⊢; obtain ⟨x, hx, hxb⟩ := hf; exact ⟨x, (List.mem_filter.1 hx).1, hxb⟩
              · simp only; omega
              · intro hf; apply h4; unfold foreignB at hf ⊢; have hz : 0 < (o.dots.filter p).length → 0 < o.dots.length := fun x => by omega
                simp only at hf ⊢
                split
                · rename_i hk
                  rw [if_pos hk] at hf; simp only [Bool.or_eq_true, decide_eq_true_eq, Bool.not_eq_true', decide_eq_false_iff_not] at hf ⊢; rcases hf with hf | hf | hf
                  · exact .inl hf
                  · exact .inr (.inl hf)
                  · exact .inr (.inr (hz hf))
                · rename_i hk
                  rw [if_neg hk] at hf
                  split
                  · rename_i hk2
                    rw [if_pos hk2] at hf; simp only [Bool.or_eq_true, decide_eq_true_eq, Bool.not_eq_true', decide_eq_false_iff_not] at hf ⊢; rcases hf with hf | hf | hf
                    · exact .inl hf
                    · exact .inr (.inl hf)
                    · exact .inr (.inr (hz hf))
                  · rename_i hk2
                    rw [if_neg hk2] at hf; simp only [Bool.or_eq_true, Bool.and_eq_true, decide_eq_true_eq, Bool.not_eq_true', decide_eq_false_iff_not] at hf ⊢; rcases hf with hf | hf
                    · exact .inl hf
                    · exact .inr ⟨hf.1, hz hf.2⟩
theorem comOk_swap {E E' : Nat → OpV} {r : Rp} (h : ComOk (absR E r)) (he : opErr (E' r.g) r.wn.length = 0) : ComOk (absR E' r) := by
  refine ⟨h.chk, h.lo, h.hi, h.time, by simp [absR], by simp [absR], fun i hi => ?_⟩; obtain rfl : i = 0 := by simp [absR] at hi; exact hi
  unfold opBad; have : opErr (absR E' r).ops[0]! (absR E' r).when_.length = 0 := he; rw [this]; simp
theorem sumE_rest (E : Nat → OpV) (rs : List Rp) : ∀ g, (sumQ E rs).E g = E g ∨ (E g).kind = 2 ∧ g ∈ rs.map (·.g) ∧ ∃ n, sumB n = true ∧ (sumQ E rs).E g = { E g with n := n } := by
  have key : ∀ k, k ≤ rs.length → (∀ s, (sumQ E (rs.take k)).sum = some s → (E s).kind = 2 ∧ s ∈ rs.map (·.g)) ∧ ∀ g, (sumQ E (rs.take k)).E g = E g ∨ (E g).kind = 2 ∧ g ∈ rs.map (·.g) ∧ ∃ n, sumB n = true ∧ (sumQ E (rs.take k)).E g = { E g with n := n } := by
    intro k
    induction k with
    | zero => intro _; exact ⟨fun s hs => by simp [sumQ] at hs, fun g => .inl (by simp [sumQ])⟩
    | succ k ih =>
      intro hk; obtain ⟨h1, h2⟩ := ih (by omega); obtain ⟨r, hr⟩ := some_of_lt (l := rs) (k := k) (by omega); have hmem : r.g ∈ rs.map (·.g) := List.mem_map.2 ⟨r, List.mem_of_getElem? hr, rfl⟩; rw [sumQ_snoc E hr]; obtain ⟨st, hst⟩ : ∃ st, st = sumQ E (rs.take k) := ⟨_, rfl⟩; rw [← hst] at h1 h2 ⊢
      have kd : ∀ g, (st.E g).kind = (E g).kind := fun g => by
        rcases h2 g with e | ⟨_, _, n, _, e⟩
        · rw [e]
        · rw [e]
      by_cases hk2 : (st.E r.g).kind = 2
      · have hkr : (E r.g).kind = 2 := by rw [← kd]; exact hk2
        cases hs : st.sum with
        | none =>
          rw [stepQ_first hk2 hs]; exact ⟨fun s hs' => by cases hs'; exact ⟨hkr, hmem⟩, h2⟩
        | some s =>
          by_cases hb : sumB ((st.E s).n + (st.E r.g).n) = true
          · rw [stepQ_sum hk2 hs hb]; refine ⟨fun t ht => by cases ht; exact h1 _ hs, fun g => ?_⟩
            by_cases e : g = s
            · subst e; refine .inr ⟨(h1 _ hs).1, (h1 _ hs).2, _, hb, ?_⟩; show updE st.E g _ g = _; rw [updE_same]; rcases h2 g with e | ⟨_, _, n, _, e⟩
              · rw [e]
              · rw [e]
            · dsimp only
              rw [updE_other _ _ e]; exact h2 g
          · rw [stepQ_full hk2 hs hb]; exact ⟨fun s hs' => by cases hs'; exact ⟨hkr, hmem⟩, h2⟩
      · rw [stepQ_other hk2]; exact ⟨h1, h2⟩
  have := (key rs.length (Nat.le_refl _)).2; rwa [List.take_length] at this
theorem sumQ_sub (E : Nat → OpV) (rs : List Rp) : (sumQ E rs).kept.Sublist rs := by
  have key : ∀ k, k ≤ rs.length → (sumQ E (rs.take k)).kept.Sublist (rs.take k) := by
    intro k
    induction k with
    | zero => intro _; simp [sumQ]
    | succ k ih =>
      intro hk; obtain ⟨r, hr⟩ := some_of_lt (l := rs) (k := k) (by omega); have h1 := ih (by omega); have ht := take_snocQ hr; rw [sumQ_snoc E hr, ht]; unfold stepQ
      split
      · split
        · exact h1.append (List.Sublist.refl _)
        · split
          · exact h1.trans (List.sublist_append_left _ _)
          · exact h1.append (List.Sublist.refl _)
      · exact h1.append (List.Sublist.refl _)
  have := key rs.length (Nat.le_refl _); rwa [List.take_length] at this
theorem PO.summed {w w' : World} {E : Nat → OpV} {D : Nat → Value} {nb : Nat} {rs all : List Rp} {v : Value} (h : PO w E D nb all) (hs : ∀ r ∈ rs, r ∈ all) (hw : SumW w rs D (sumQ E rs) v w') : PO w' (sumQ E rs).E D nb all := by
  have e0 : ∀ g, g ∉ rs.map (·.g) → (sumQ E rs).E g = E g := fun g hg => by
    rcases sumE_rest E rs g with e | ⟨_, hm, _⟩
    · exact e
    · exact absurd hm hg
  have dt : ∀ g, ((sumQ E rs).E g).dots = (E g).dots := fun g => by
    rcases sumE_rest E rs g with e | ⟨_, _, n, _, e⟩ <;> rw [e]
  have tx : ∀ g, ((sumQ E rs).E g).text = (E g).text := fun g => by
    rcases sumE_rest E rs g with e | ⟨_, _, n, _, e⟩ <;> rw [e]
  have nG : ∀ {b : Nat} {cs : Array Value} {t : TypeId}, w.heap[b]? = some (.cells cs t (0, 0)) → t ≠ 76 → w'.heap[b]? = w.heap[b]? := fun {b cs t} hb ht => hw.off.block _ (lt_of_heapQ hb) fun hm => by
    obtain ⟨q, hq, e⟩ := List.mem_map.1 hm; have := h.ops q (hs q hq); rw [e, hb] at this; injection this with this; injection this with _ this; exact ht this
  refine ⟨fun r hr => ?_, fun r hr => ?_, fun r hr => RowT.kept (h.ints r hr) fun b cs hb => nG hb (by decide), fun r hr => ?_⟩
  · by_cases hm : r.g ∈ rs.map (·.g)
    · obtain ⟨q, hq, e⟩ := List.mem_map.1 hm; rw [← e]; exact hw.ops q hq
    · rw [hw.off.block _ (lt_of_heapQ (h.ops r hr)) hm, e0 _ hm]; exact h.ops r hr
  · rw [dt]; refine (h.dots r hr).kept fun b hb => ?_
    obtain ⟨cs, hcs⟩ := (h.dots r hr).block hb; exact nG hcs (by decide)
  · have hp := h.pf r hr; refine ⟨comOk_swap hp.ok ?_, hp.len, by rw [tx]; exact hp.text⟩; rcases sumE_rest E rs r.g with e | ⟨hk, _, n, hn, e⟩
    · rw [e]; exact hp.err
    · rw [e]; exact opErr_n hp.err n hk (sumB_of hn)
end Go.Proofs.YtdnebclemngdcaaGreatDoor
namespace Go.Proofs.YtdnebclemngdcaaGreatDoor
open Go.RowKit Go.Maps Go.Sort
set_option maxRecDepth 100000
set_option linter.unusedSectionVars false
variable [Inhabited ComV] [DecidableEq D3] [Inhabited D3] [Inhabited Dd] [Inhabited Dn] [Inhabited OpV]

structure TwoR (w : World) (v : Value) (a : List Rp) (u : Value) (b : List Rp) (wr : World) : Prop where
  row1 : RowR wr w.heap.size v a
  row2 : RowR wr w.heap.size u b
  apart : ∀ i, v.ownBlock = some i → u.ownBlock ≠ some i
  below : Below w.heap.size w wr
theorem TwoR.start (w : World) : TwoR w (.slice none 0 0) [] (.slice none 0 0) [] w := ⟨RowR.nil _ _, RowR.nil _ _, (fun i h => by cases h), Below.refl _ _⟩
theorem TwoR.moved {w wr w' : World} {v u : Value} {a b : List Rp} (h : TwoR w v a u b wr) (hb : Below wr.heap.size wr w') : TwoR w v a u b w' := ⟨h.row1.below hb, h.row2.below hb, h.apart, h.below.trans (hb.mono h.below.size)⟩
theorem row_kept {w w' : World} {base : Nat} {v : Value} {a : List Rp} {r : Option Nat} (h : RowR w base v a) (hg : w.grownBy w' r) (hne : ∀ i, v.ownBlock = some i → r ≠ some i) : RowR w' base v a := by
  refine ⟨h.1, ?_⟩; rcases h.2 with h0 | ⟨g, cap, cur, hv, h1, hh, h2⟩
  · exact .inl h0
  · exact .inr ⟨g, cap, cur, hv, h1, by rw [hg.block _ (lt_of_heapQ hh) fun e => hne g (by rw [hv]; rfl) e.symm]; exact hh, h2⟩
theorem TwoR.step1 {w wr w' : World} {v u v' : Value} {a b : List Rp} {r : Rp} (h : TwoR w v a u b wr) (hg : wr.grownBy w' v.ownBlock) (hr : w'.ownsRow w.heap.size 34 3 v' (a.length + 1) (a.flatMap Rp.cells ++ r.cells)) (hl : v'.ownBlock = v.ownBlock ∨ v'.ownBlock = some wr.heap.size) : TwoR w v' (a ++ [r]) u b w' where
  row1 := RowR.snoc hr
  row2 := row_kept h.row2 hg fun i hi e => h.apart i e hi
  apart := fun i hi hu => by
    rcases hl with hl | hl
    · exact h.apart i (hl ▸ hi) hu
    · have := (h.row2.lt i hu).2; rw [hl] at hi; cases hi; omega
  below := h.below.trans ⟨hg.os, hg.tape, hg.output, hg.size, fun i hi => hg.block i (Nat.lt_of_lt_of_le hi h.below.size) fun e => by have := (h.row1.lt i e.symm).1; omega⟩
theorem TwoR.swap {w wr : World} {v u : Value} {a b : List Rp} (h : TwoR w v a u b wr) : TwoR w u b v a wr := ⟨h.row2, h.row1, fun i hi hv => h.apart i hv hi, h.below⟩
theorem filter_snocQ {α : Type} (p : α → Bool) {l : List α} {k : Nat} {a : α} (h : l[k]? = some a) : (l.take (k + 1)).filter p = (l.take k).filter p ++ (if p a then [a] else []) := by
  rw [take_snocQ h, List.filter_append]
  congr 1
  by_cases hp : p a = true
  · simp [hp]
  · simp [hp]
theorem Off.fresh {G G' : List Nat} {a b c : World} (h : Off G a b) (h' : Off G' b c) (hg : ∀ i ∈ G', i ∈ G ∨ a.heap.size ≤ i) : Off G a c := ⟨h'.os.trans h.os, h'.tape.trans h.tape, h'.output.trans h.output, Nat.le_trans h.size h'.size, fun i hi hn => (h'.block i (Nat.lt_of_lt_of_le hi h.size) fun hm => by
  rcases hg i hm with x | x
  · exact hn x
  · omega).trans (h.block i hi hn)⟩
theorem Off.of_grown {w w' : World} {v : Value} (h : w.grownBy w' v.ownBlock) : Off (ownL v) w w' := ⟨h.os, h.tape, h.output, h.size, fun i hi hn => h.block i hi fun e => hn (mem_ownL.2 e.symm)⟩
theorem RowR.mono {w : World} {B B' : Nat} {v : Value} {a : List Rp} (h : RowR w B v a) (hB : B' ≤ B) : RowR w B' v a := by
  refine ⟨h.1, ?_⟩; rcases h.2 with h0 | ⟨g, cap, cur, hv, h1, h2⟩
  · exact .inl h0
  · exact .inr ⟨g, cap, cur, hv, Nat.le_trans hB h1, h2⟩
theorem RowR.off {w w' : World} {B : Nat} {v : Value} {a : List Rp} {G : List Nat} (h : RowR w B v a) (ho : Off G w w') (hn : ∀ b, v.ownBlock = some b → b ∉ G) : RowR w' B v a := by
  refine ⟨h.1, ?_⟩; rcases h.2 with h0 | ⟨g, cap, cur, hv, h1, hh, h2⟩
  · exact .inl h0
  · exact .inr ⟨g, cap, cur, hv, h1, by rw [ho.block _ (lt_of_heapQ hh) (hn g (by rw [hv]; rfl))]; exact hh, h2⟩
theorem RowR.typed {w : World} {B : Nat} {v : Value} {a : List Rp} (h : RowR w B v a) {b : Nat} (hb : v.ownBlock = some b) : ∃ cs, w.heap[b]? = some (.cells cs 34 (0, 0)) := own_type h hb
theorem srcR {w : World} {B : Nat} {v : Value} {a : List Rp} (h : RowR w B v a) : SrcAt w v a.length 3 (a.flatMap Rp.cells) := by
  rcases h.2 with ⟨rfl, h0⟩ | ⟨g, cap, cur, rfl, _, hh, hc, _, hs, ht⟩
  · refine .inl ⟨rfl, h0, ?_⟩; rw [List.eq_nil_of_length_eq_zero h0]; rfl
  · refine .inr ⟨_, cap, rfl, flatR_length a, fun j u hj => ?_⟩; rw [Addr.add_lit, Nat.zero_add]; simp only [World.cell?, hh]
    have hl : j < a.length * 3 := by
      have := (List.getElem?_eq_some_iff.1 hj).1; rw [flatR_length] at this; exact this
    rw [← ht, List.getElem?_take, if_pos hl, Array.getElem?_toList] at hj; exact hj
theorem flatR_one (a : List Rp) : ∀ u ∈ a.flatMap Rp.cells, u.oneCell' = true := fun u hu => by
  obtain ⟨r, _, hr⟩ := List.mem_flatMap.1 hu; exact r.one u hr
theorem blocksG_sub {rs rs' : List Rp} {D : Nat → Value} (h : ∀ r ∈ rs', r ∈ rs) : ∀ b ∈ blocksG rs' D, b ∈ blocksG rs D := fun b hb => by
  rcases List.mem_append.1 hb with hb | hb
  · obtain ⟨q, hq, e⟩ := List.mem_map.1 hb; exact List.mem_append_left _ (List.mem_map.2 ⟨q, h q hq, e⟩)
  · obtain ⟨q, hq, e⟩ := List.mem_flatMap.1 hb; exact List.mem_append_right _ (List.mem_flatMap.2 ⟨q, h q hq, e⟩)
def joinD (rs : List Rp) (D' D : Nat → Value) : Nat → Value := fun g => if g ∈ rs.map (·.g) then D' g else D g
theorem PO.spent {w w' : World} {E : Nat → OpV} {D D' : Nat → Value} {nb : Nat} {all rs os : List Rp} {V : D3 → Bool} {T : List (D3 × ByteArray)} (h : PO w E D nb all) (h1 : ∀ r ∈ rs, r ∈ all) (h2 : ∀ r ∈ os, r ∈ all) (hdis : ∀ r ∈ rs, ∀ q ∈ os, r.g ≠ q.g)
    (hap : ∀ q ∈ all, ∀ q' ∈ all, q.g ≠ q'.g → ∀ b, (D q.g).ownBlock = some b → (D q'.g).ownBlock ≠ some b) (hs : SpW (keepD V T) w rs E D rs.length D' w') :
    PO w' (trimK (keepD V T) E rs rs.length) (joinD rs D' D) nb (rs ++ os) ∧ ∀ r ∈ rs ++ os, ((joinD rs D' D) r.g).ownBlock = (D r.g).ownBlock := by
  have hopen : ∀ q ∈ os, q.g ∉ rs.map (·.g) := fun q hq hm => by
    obtain ⟨r, hr, e⟩ := List.mem_map.1 hm; exact hdis r hr q hq e
  have tk : ∀ r ∈ rs, trimK (keepD V T) E rs rs.length r.g = withDots (keepD V T) (E r.g) := fun r hr => by
    unfold trimK; rw [List.take_length, if_pos (List.mem_map.2 ⟨r, hr, rfl⟩)]
  have to : ∀ q ∈ os, trimK (keepD V T) E rs rs.length q.g = E q.g := fun q hq => by
    unfold trimK; rw [List.take_length, if_neg (hopen q hq)]
  have jr : ∀ r ∈ rs, joinD rs D' D r.g = D' r.g := fun r hr => if_pos (List.mem_map.2 ⟨r, hr, rfl⟩)
  have jo : ∀ q ∈ os, joinD rs D' D q.g = D q.g := fun q hq => if_neg (hopen q hq)
  have hops := h.ops.sub h1; have hdts : ∀ r ∈ rs, DotsO w (D r.g) (E r.g).dots := fun r hr => h.dots r (h1 r hr)
  have oG : ∀ q ∈ os, q.g ∉ blocksG rs D := fun q hq hm => by
    rcases List.mem_append.1 hm with hm | hm
    · exact hopen q hq hm
    · obtain ⟨r, hr, e⟩ := List.mem_flatMap.1 hm; exact (hdts r hr).ne (h.ops q (h2 q hq)) (by decide) (mem_ownL.1 e)
  refine ⟨⟨fun r hr => ?_, fun r hr => ?_, fun r hr => ?_, fun r hr => ?_⟩, fun r hr => ?_⟩
  · rcases List.mem_append.1 hr with hr | hr
    · rw [jr r hr]; exact hs.ops r hr
    · rw [jo r hr, to r hr, hs.off.block _ (lt_of_heapQ (h.ops r (h2 r hr))) (oG r hr)]; exact h.ops r (h2 r hr)
  · rcases List.mem_append.1 hr with hr | hr
    · rw [jr r hr]; exact hs.dots r hr
    · rw [jo r hr, to r hr]; refine (h.dots r (h2 r hr)).kept fun b hb => ?_
      obtain ⟨cs, hcs⟩ := (h.dots r (h2 r hr)).block hb; refine hs.off.block b (lt_of_heapQ hcs) fun hm => ?_
      rcases List.mem_append.1 hm with hm | hm
      · obtain ⟨q, hq, e⟩ := List.mem_map.1 hm; have := hops q hq; rw [e, hcs] at this; injection this with this; injection this with _ this; exact absurd this (by decide)
      · obtain ⟨q, hq, e⟩ := List.mem_flatMap.1 hm; exact hap q (h1 q hq) r (h2 r hr) (fun x => hopen r hr (List.mem_map.2 ⟨q, hq, x⟩)) b (mem_ownL.1 e) hb
  · have hall : r ∈ all := by
      rcases List.mem_append.1 hr with hr | hr
      · exact h1 r hr
      · exact h2 r hr
    refine RowT.kept (h.ints r hall) fun b cs hb => hs.off.block b (lt_of_heapQ hb) (not_blocksG hops hdts hb (by decide) (by decide))
  · rcases List.mem_append.1 hr with hr | hr
    · have hp := h.pf r (h1 r hr); refine ⟨comOk_swap hp.ok ?_, hp.len, by rw [tk r hr]; exact hp.text⟩; rw [tk r hr]; exact opErr_dots hp.err _
    · have hp := h.pf r (h2 r hr); refine ⟨comOk_swap hp.ok (by rw [to r hr]; exact hp.err), hp.len, by rw [to r hr]; exact hp.text⟩
  · rcases List.mem_append.1 hr with hr | hr
    · rw [jr r hr]; exact hs.own r hr
    · rw [jo r hr]
end Go.Proofs.YtdnebclemngdcaaGreatDoor
