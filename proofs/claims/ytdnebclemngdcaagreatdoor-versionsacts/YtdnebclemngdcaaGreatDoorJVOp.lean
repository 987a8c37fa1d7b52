/- The closures of opsOn, and slices.DeleteFunc over ops with their dots; isAt, isKind, isName, isDot, hasForeignField by their contracts. -/
import Derived.Test.YtdnebclemngdcaaGreatDoorJVCmpD
import Derived.Shelf.SlicesQ.IndexFunc
import Derived.Shelf.GgSortFunc.RowK
import Derived.Lib.SlKept
import Derived.Lib.SliceRun
namespace Go.Proofs.YtdnebclemngdcaaGreatDoor
open Go.RowKit Go.Sort
set_option linter.unusedSectionVars false
variable [Inhabited ComV] [DecidableEq D3] [Inhabited D3] [Inhabited Dd] [Inhabited OpV]

theorem ne_toList {a b : ByteArray} (h : a ≠ b) : ¬ a.toList = b.toList := fun e => h (WideShapes.bytes_inj (by rw [← Lib.toList_data, ← Lib.toList_data]; exact e))
theorem keyNe (W : World) (x : Dd) (B : Nat) (key : ByteArray) (hc : W.cell? ⟨B, 0, none⟩ = some (.string key)) :
    Calls Tryz.prog 111 #[.agg x.enc.toArray, .pointer (some ⟨B, 0, none⟩)] W fun e w' => e = .returned (.bool (!decide (x.key = key))) ∧ w' = W.alloc (.cells x.enc.toArray 131) := by
  obtain ⟨x1, x2, x3, x4, x5, x6, xp, xl, xc, ⟨x8, x9, x10⟩, x11, _⟩ := x; have hB : B < W.heap.size := lt_of_cell hc; have hne : B ≠ W.heap.size := by omega
  show Calls Tryz.prog 111 #[.agg #[.int .i64 x1, .string x2, .int .i64 x3, .string x4, .int .i64 x5, .bool x6, .slice xp xl xc, .int .i64 x8, .int .i64 x9, .int .i64 x10, .int .i64 x11], .pointer (some ⟨B, 0, none⟩)] W
    fun e w' => e = .returned (.bool (!decide (x2 = key))) ∧ w' = W.alloc (.cells #[.int .i64 x1, .string x2, .int .i64 x3, .string x4, .int .i64 x5, .bool x6, .slice xp xl xc, .int .i64 x8, .int .i64 x9, .int .i64 x10, .int .i64 x11] 131)
  by_cases h : x2 = key
  · subst h; go_enter Tryz.func111, Tryz.ntmps111; go_wp2; go_ret; exact ⟨ret_bool (by simp), rfl⟩
  · have hb := ne_toList h; go_enter Tryz.func111, Tryz.ntmps111; go_wp2; go_ret; exact ⟨ret_bool (by rw [decide_eq_false h]; simp [hb]), rfl⟩
theorem kindNe (W : World) (x : Dd) (B : Nat) (kind : Int) (hc : W.cell? ⟨B, 0, none⟩ = some (.int .i64 kind)) :
    Calls Tryz.prog 115 #[.agg x.enc.toArray, .pointer (some ⟨B, 0, none⟩)] W fun e w' => e = .returned (.bool (!decide (x.kind = kind))) ∧ w' = W.alloc (.cells x.enc.toArray 131) := by
  obtain ⟨x1, x2, x3, x4, x5, x6, xp, xl, xc, ⟨x8, x9, x10⟩, x11, _⟩ := x; have hB : B < W.heap.size := lt_of_cell hc; have hne : B ≠ W.heap.size := by omega
  show Calls Tryz.prog 115 #[.agg #[.int .i64 x1, .string x2, .int .i64 x3, .string x4, .int .i64 x5, .bool x6, .slice xp xl xc, .int .i64 x8, .int .i64 x9, .int .i64 x10, .int .i64 x11], .pointer (some ⟨B, 0, none⟩)] W
    fun e w' => e = .returned (.bool (!decide (x3 = kind))) ∧ w' = W.alloc (.cells #[.int .i64 x1, .string x2, .int .i64 x3, .string x4, .int .i64 x5, .bool x6, .slice xp xl xc, .int .i64 x8, .int .i64 x9, .int .i64 x10, .int .i64 x11] 131)
  by_cases h : x3 = kind
  · subst h; go_enter Tryz.func115, Tryz.ntmps115; go_wp2; go_ret; exact ⟨ret_bool (by simp), rfl⟩
  · have hb : (x3 != kind) = true := by simpa using h
    go_enter Tryz.func115, Tryz.ntmps115; go_wp2; go_ret; exact ⟨ret_bool (by simp [h]), rfl⟩

theorem Dd.enc_length (x : Dd) : x.enc.length = 11 := rfl
theorem Dd.enc_one (x : Dd) : ∀ v ∈ x.enc, v.oneCell' = true := fun v hv => by
  simp only [Dd.enc, List.mem_cons, List.not_mem_nil, or_false] at hv; rcases hv with rfl | rfl | rfl | rfl | rfl | rfl | rfl | rfl | rfl | rfl | rfl <;> rfl

def RowD (w : World) (base : Nat) (v : Value) (xs : List Dd) : Prop :=
  (v = .slice none 0 0 ∧ xs = []) ∨ ∃ g cap, v = .slice (some ⟨g, 0, none⟩) xs.length cap ∧ base ≤ g ∧ g < w.heap.size ∧ xs.length ≤ cap ∧ HoldsK Dd.enc 11 w g 0 xs.toArray

theorem holdsK_iff {w : World} {g : Nat} {d : Array Dd} : HoldsK Dd.enc 11 w g 0 d ↔ ∀ j, j < d.size → ∀ i, i < 11 → w.cell? ⟨g, j * 11 + i, none⟩ = some (d[j]!.enc[i]!) ∧ w.frozen? ⟨g, j * 11 + i, none⟩ = false := by
  constructor
  · intro h j hj i hi; have := h (j * 11 + i) (by rw [size_flatK]; omega); rw [get_flatK _ _ _ _ (by omega), show (j * 11 + i) / 11 = j by omega, show (j * 11 + i) % 11 = i by omega, Nat.zero_add] at this; exact this
  · intro h t ht; rw [size_flatK] at ht; rw [get_flatK _ _ _ _ ht, Nat.zero_add]; have := h (t / 11) (by omega) (t % 11) (by omega); rw [show t / 11 * 11 + t % 11 = t by omega] at this; exact this

theorem holdsK_cells {w : World} {g : Nat} {d : Array Dd} (h : HoldsK Dd.enc 11 w g 0 d) {j : Nat} (hj : j < d.size) {u : Dd} (hu : d[j]! = u) : w.cell? ⟨g, j * 11, none⟩ = some (.int .i64 u.at_) ∧ w.cell? ⟨g, j * 11 + 1, none⟩ = some (.string u.key) ∧ w.cell? ⟨g, j * 11 + 2, none⟩ = some (.int .i64 u.kind) ∧ w.cell? ⟨g, j * 11 + 3, none⟩ = some (.string u.text) ∧ w.cell? ⟨g, j * 11 + 4, none⟩ = some (.int .i64 u.n) ∧ w.cell? ⟨g, j * 11 + 5, none⟩ = some (.bool u.rem) ∧ w.cell? ⟨g, j * 11 + 6, none⟩ = some (.slice u.dp u.dl u.dc) ∧ w.cell? ⟨g, j * 11 + 7, none⟩ = some (.int .i64 u.dot.p) ∧ w.cell? ⟨g, j * 11 + 8, none⟩ = some (.int .i64 u.dot.t) ∧ w.cell? ⟨g, j * 11 + 9, none⟩ = some (.int .i64 u.dot.a) ∧ w.cell? ⟨g, j * 11 + 10, none⟩ = some (.int .i64 u.wt) := by
  rw [holdsK_iff] at h; have hh := fun i hi => (h j hj i hi).1
  rw [hu] at hh; exact ⟨hh 0 (by omega), hh 1 (by omega), hh 2 (by omega), hh 3 (by omega), hh 4 (by omega), hh 5 (by omega), hh 6 (by omega), hh 7 (by omega), hh 8 (by omega), hh 9 (by omega), hh 10 (by omega)⟩
theorem holdsK_some {w : World} {g : Nat} {d : Array Dd} (h : HoldsK Dd.enc 11 w g 0 d) {j : Nat} (hj : j < d.size) : ∀ q, q < 11 → (w.cell? ⟨g, j * 11 + q, none⟩).isSome = true := fun q hq => by
  rw [(holdsK_iff.1 h j hj q hq).1]; rfl
theorem holdsK_frz {w : World} {g : Nat} {d : Array Dd} (h : HoldsK Dd.enc 11 w g 0 d) {j : Nat} (hj : j < d.size) : ∀ q, q < 11 → w.frozen? ⟨g, j * 11 + q, none⟩ = false := fun q hq => (holdsK_iff.1 h j hj q hq).2
theorem holdsK_set {w : World} {g : Nat} {d : Array Dd} (h : HoldsK Dd.enc 11 w g 0 d) {i : Nat} (hi : i < d.size) (x : Dd) : HoldsK Dd.enc 11 (w.setCells g (i * 11) x.enc) g 0 (d.setIfInBounds i x) := by
  rw [holdsK_iff] at h ⊢; intro j hj t ht; have hj' : j < d.size := by simpa using hj
  rw [World.frozen?_setCells]; refine ⟨?_, (h j hj' t ht).2⟩
  by_cases e : j = i
  · subst e; have := World.cell?_setCells_in g x.enc (j * 11) w (fun q hq => by rw [(h j hj' q (by simpa [Dd.enc_length] using hq)).1]; rfl) t (by rw [Dd.enc_length]; exact ht); have e2 : (d.setIfInBounds j x)[j]! = x := by simp [hj']
    rw [this, e2, getElem!_pos x.enc t (by rw [Dd.enc_length]; exact ht)]
  · rw [World.cell?_setCells_out g x.enc (i * 11) w _ (fun _ _ => by rw [Dd.enc_length]; simp only; omega), (h j hj' t ht).1]; have e2 : (d.setIfInBounds i x)[j]! = d[j]! := by simp [hj', Ne.symm e]
    rw [e2]

theorem holdsK_cut {w : World} {g : Nat} {d d' : Array Dd} (h : HoldsK Dd.enc 11 w g 0 d) (hs : d'.size ≤ d.size) (he : ∀ j, j < d'.size → d'[j]! = d[j]!) : HoldsK Dd.enc 11 w g 0 d' := by
  rw [holdsK_iff] at h ⊢; intro j hj t ht; rw [he j hj]; exact h j (by omega) t ht

theorem holdsK_tail {w : World} {g : Nat} {d : Array Dd} (h : HoldsK Dd.enc 11 w g 0 d) (o : Nat) (vs : List Value) (ho : d.size * 11 ≤ o) : HoldsK Dd.enc 11 (w.setCells g o vs) g 0 d := by
  rw [holdsK_iff] at h ⊢; intro j hj t ht; rw [World.frozen?_setCells, World.cell?_setCells_out g vs o w _ (fun _ _ => .inl (by simp only; omega))]; exact h j hj t ht

theorem holdsK_below {w w' : World} {B g : Nat} {d : Array Dd} (h : HoldsK Dd.enc 11 w g 0 d) (hb : Below B w w') (hg : g < B) : HoldsK Dd.enc 11 w' g 0 d := by
  rw [holdsK_iff] at h ⊢; intro j hj t ht; have e := hb.block g hg; have := h j hj t ht; simp only [World.cell?, World.frozen?, e]
  simpa only [World.cell?, World.frozen?] using this

theorem run_clear_k (w : World) (t e ty : TypeId) (z : Value) (ht : Tryz.prog.underlying t = some (.slice e)) (hv : ∀ w, (zeroValue e).run Tryz.prog w = .ok z w) (b o n c : Nat) (hn : 0 < n) (vs : List Value) (hvs : (Builtin.zeroCells z.cells n).toList = vs) (h1 : ∀ v ∈ vs, v.oneCell' = true)
    (hc : ∀ j, j < vs.length → (w.cell? ⟨b, o + j, none⟩).isSome = true) (hf : ∀ j, j < vs.length → w.frozen? ⟨b, o + j, none⟩ = false) :
    (Builtin.clear_ #[t] ty #[.slice (some ⟨b, o, none⟩) n c]).run Tryz.prog w = .ok (.tuple #[]) (w.setCells b o vs) := by
  have hst := run_storeCells_cells (P := Tryz.prog) b o vs 0 w (by simpa using hc) (by simpa using hf) h1; simp only [Nat.add_zero] at hst; obtain ⟨m, rfl⟩ : ∃ m, n = m + 1 := ⟨n - 1, by omega⟩; simp [Builtin.clear_, run_underlying ht, hv, hvs, hst]

theorem indexFunc_none (w : World) (p : Option Addr) (cap : Nat) (fv : Value) : Calls Tryz.prog 142 #[.slice p 0 cap, fv] w fun e w' => e = .returned (.int .i64 (-1)) ∧ w' = w := by
  go_enter Tryz.func142, Tryz.ntmps142; go_wp2; refine wp_loop_rounds 1 ?_; rw [rounds_succ]; go_wp2; go_ret; exact ⟨rfl, rfl⟩

theorem below_setCells {B b : Nat} {a : World} (hb : B ≤ b) : ∀ (vs : List Value) (o : Nat) {w : World}, Below B a w → Below B a (w.setCells b o vs)
  | [], _, _, h => h
  | v :: r, o, _, h => below_setCells hb r (o + 1) (h.setCell (p := ⟨b, o, none⟩) hb v)
theorem setCells_size (b : Nat) : ∀ (vs : List Value) (o : Nat) (w : World), (w.setCells b o vs).heap.size = w.heap.size
  | [], _, _ => rfl
  | v :: r, o, w => by
    have h1 := setCells_size b r (o + 1) (w.setCell ⟨b, o, none⟩ v); have h2 : (w.setCell ⟨b, o, none⟩ v).heap.size = w.heap.size := by simp
    exact h1.trans h2

theorem wpList_store_k (w : World) {ops : Array Oper} {rest : List Oper} {o : Oper} {a : Act} {Q : Exit → Act → World → Prop} (hg : o.guard = none) (x y : Operand) (ty : TypeId) (hop : o.op = .store ty x y)
    (b off : Nat) (cs : List Value) (hx : a.eval x = .pointer (some ⟨b, off, none⟩)) (hy : a.eval y = .agg cs.toArray) (n : Nat) (hn : cs.length = n) (hs : ∀ w, (sizeOf ty).run Tryz.prog w = .ok n w) (hone : cs.all (fun v => v.oneCell') = true)
    (W : World) (hW : w = W) (hc : ∀ j, j < n → (W.cell? ⟨b, off + j, none⟩).isSome = true) (hf : ∀ j, j < n → W.frozen? ⟨b, off + j, none⟩ = false)
    (hK : wpList Tryz.prog ops Q rest (a.put o.dst undef) (w.setCells b off cs)) : wpList Tryz.prog ops Q (o :: rest) a w := by
  subst hn hW; have h1 : ∀ v ∈ cs, v.oneCell' = true := List.all_eq_true.1 hone; have hst := run_storeCells_cells (P := Tryz.prog) b off cs 0 w (by simpa using hc) (by simpa using hf) h1; simp only [Nat.add_zero] at hst; refine wpList_plain hg fun K' hK' => ?_
  unfold Oper.wp execOp; simp only [hop, hx, hy, Instr.storeAt, Instr.sureAddr, Sem.run_bind, Sem.run_pure, Result.andThen_ok, storeVar, hs, Value.cells]; simp [hst]; exact hK' _ _ hK
end Go.Proofs.YtdnebclemngdcaaGreatDoor
namespace Go.Proofs.YtdnebclemngdcaaGreatDoor
open Go.RowKit
set_option maxRecDepth 100000
set_option linter.unusedSectionVars false
variable [Inhabited ComV] [DecidableEq D3] [Inhabited D3] [Inhabited Dd] [Inhabited OpV]

theorem isAt_any (w : World) (x : Int) : Calls Tryz.prog 92 #[.int .i64 x] w fun e w' => e = .returned (.bool (decide (0 ≤ x) && decide (x < 12))) ∧ w' = w := by
  by_cases h1 : 0 ≤ x
  · by_cases h2 : x < 12
    · go_enter Tryz.func92, Tryz.ntmps92; go_wp2; go_ret; exact ⟨ret_bool (by simp [h1, h2]), rfl⟩
    · go_enter Tryz.func92, Tryz.ntmps92; go_wp2; go_ret; exact ⟨ret_bool (by simp; omega), rfl⟩
  · go_enter Tryz.func92, Tryz.ntmps92; go_wp2; go_ret; exact ⟨ret_bool (by simp; omega), rfl⟩
theorem isKind_any (w : World) (x : Int) : Calls Tryz.prog 94 #[.int .i64 x] w fun e w' => e = .returned (.bool (kindB x)) ∧ w' = w := by
  by_cases h1 : x = 1
  · subst h1; go_enter Tryz.func94, Tryz.ntmps94; go_wp2; go_ret; exact ⟨rfl, rfl⟩
  · have b1 : (x == 1) = false := by simpa using h1
    by_cases h2 : x = 2
    · subst h2; go_enter Tryz.func94, Tryz.ntmps94; go_wp2; go_ret; exact ⟨rfl, rfl⟩
    · have b2 : (x == 2) = false := by simpa using h2
      by_cases h3 : x = 3
      · subst h3; go_enter Tryz.func94, Tryz.ntmps94; go_wp2; go_ret; exact ⟨rfl, rfl⟩
      · have b3 : (x == 3) = false := by simpa using h3
        go_enter Tryz.func94, Tryz.ntmps94; go_wp2; go_ret; exact ⟨ret_bool (by simp [kindB, h1, h2, h3]), rfl⟩

set_option maxHeartbeats 1000000 in
theorem isName_any (w : World) (s : ByteArray) : Calls Tryz.prog 93 #[.string s] w fun e w' => e = .returned (.bool (nameB s)) ∧ w' = w := by
  by_cases h1 : s.size < 1
  · have e1 : (s.size : Int) < 1 := by omega
    go_enter Tryz.func93, Tryz.ntmps93; go_wp2; go_ret; exact ⟨ret_bool (nameB_false (.inl h1)).symm, rfl⟩
  · have e1 : ¬ (s.size : Int) < 1 := by omega
    by_cases h2 : 16 < s.size
    · have e2 : 16 < (s.size : Int) := by omega
      go_enter Tryz.func93, Tryz.ntmps93; go_wp2; go_ret; exact ⟨ret_bool (nameB_false (.inr h2)).symm, rfl⟩
    · have e2 : ¬ 16 < (s.size : Int) := by omega
      go_enter Tryz.func93, Tryz.ntmps93; go_wp2
      go_loop [15] (fun i => ∃ k : Nat, k ≤ s.size ∧ i = .int .i64 k ∧ ∀ t (ht : t < s.size), t < k → letterB s[t] = true) (fun i => s.size - (intOf i).toNat)
      case atStart => exact ⟨0, Nat.zero_le _, rfl, fun t _ ht => absurd ht (Nat.not_lt_zero _)⟩
      case round =>
        obtain ⟨k, hk, rfl, hin⟩ := hrel; have HI := hid hin; clear hin
        by_cases hlt : k < s.size
        · by_cases hb : letterB s[k] = true
          · have hb' := hb; simp only [letterB, decide_eq_true_eq] at hb'
            by_cases a1 : (s[k].toNat : Int) < 97
            · by_cases a3 : (s[k].toNat : Int) < 48
              · have a5 : (s[k].toNat : Int) = 45 := by omega
                have a6 : ((s[k].toNat : Int) != 45) = false := by rw [a5]; rfl
                go_wp2
                go_round
                case rel => exact ⟨k + 1, by omega, by go_num, fun t ht h => by rcases Nat.lt_succ_iff_lt_or_eq.1 h with h | rfl; exact HI.out t ht h; exact hb⟩
                case measure => simp [intOf]; omega
              · have a4 : ¬ 57 < (s[k].toNat : Int) := by omega
                go_wp2
                go_round
                case rel => exact ⟨k + 1, by omega, by go_num, fun t ht h => by rcases Nat.lt_succ_iff_lt_or_eq.1 h with h | rfl; exact HI.out t ht h; exact hb⟩
                case measure => simp [intOf]; omega
            · have a2 : ¬ 122 < (s[k].toNat : Int) := by omega
              go_wp2
              go_round
              case rel => exact ⟨k + 1, by omega, by go_num, fun t ht h => by rcases Nat.lt_succ_iff_lt_or_eq.1 h with h | rfl; exact HI.out t ht h; exact hb⟩
              case measure => simp [intOf]; omega
          · have hf : letterB s[k] = false := by simpa using hb
            have hb' := hf; simp only [letterB, decide_eq_false_iff_not] at hb'; have a6 : ((s[k].toNat : Int) != 45) = true := by simp; omega
            have HF := hid (letters_bad hlt hf); clear hf hb
            by_cases a1 : (s[k].toNat : Int) < 97
            · by_cases a3 : (s[k].toNat : Int) < 48
              · go_wp2; go_ret
                exact ⟨ret_bool HF.out.symm, rfl⟩
              · have a4 : 57 < (s[k].toNat : Int) := by omega
                go_wp2; go_ret
                exact ⟨ret_bool HF.out.symm, rfl⟩
            · have a2 : 122 < (s[k].toNat : Int) := by omega
              have a3 : ¬ (s[k].toNat : Int) < 48 := by omega
              have a4 : 57 < (s[k].toNat : Int) := by omega
              go_wp2; go_ret
              exact ⟨ret_bool HF.out.symm, rfl⟩
        · obtain rfl : k = s.size := by omega
          go_wp2; go_ret
          exact ⟨ret_bool (letters_ok (by omega) (by omega) fun t ht => HI.out t ht ht).symm, rfl⟩
end Go.Proofs.YtdnebclemngdcaaGreatDoor
