/- For the reference's enter: appending to a row of one's own; where a text's place is. -/
import Derived.Test.YtdnebclemngdcaaGreatDoorFVOfRL
import Derived.Test.YtdnebclemngdcaaGreatDoorFVSame
namespace Go.Proofs.YtdnebclemngdcaaGreatDoor
open Go.RowKit Go.Sort Go.Maps
set_option maxRecDepth 100000
set_option linter.unusedSectionVars false
variable [Inhabited ComV] [DecidableEq D3] [Inhabited D3] [Inhabited Dd] [Inhabited Dn] [Inhabited OpV]

/-- append(own row, x...): whatever x reads as. -/
theorem wpList_append_own_src {w : World} {ops : Array Oper} {rest : List Oper} {o : Oper} {a : Act} {Q : Exit → Act → World → Prop} (hgd : o.guard = none) (s x : Operand) (t : TypeId)
    (ho : o.op = .call { callee := .builtin .append, args := #[s, x], argTypes := #[t, t] })
    (base : Nat) (e : TypeId) (i : TypeInfo) (z : Value) (size bytes : Nat) (ht : Tryz.prog.underlying t = some (.slice e)) (hi : Tryz.prog.info? e = some i) (hz : i.zero = some z)
    (hsize : i.size = size) (hby : i.bytes = bytes) (hzs : z.cells.size = size) (hsz : 0 < size)
    (v0 : Value) (n : Nat) (xs : List Value) (hs : a.eval s = v0) (hown : w.ownsRow base e size v0 n xs) (v : Value) (m : Nat) (news : List Value) (hx : a.eval x = v) (hv : SrcAt w v m size news) (h1 : ∀ u ∈ news, u.oneCell' = true)
    (h63 : n + m ≤ maxLen) (hbytes : (n + m) * bytes ≤ 140737488355328) (hbase : base ≤ w.heap.size)
    (h : ∀ v' w', w'.ownsRow base e size v' (n + m) (xs ++ news) → w.grownBy w' v0.ownBlock → wpList Tryz.prog ops Q rest (a.put o.dst v') w') : wpList Tryz.prog ops Q (o :: rest) a w := by
  rcases hv with ⟨rfl, rfl, rfl⟩ | ⟨ad, c, rfl, hl, hn⟩
  · exact wpList_append_own_none hgd s x t ho base e i size ht hi v0 n xs hs hown hx (h _ _ (by simpa using hown) ⟨rfl, rfl, rfl, Nat.le_refl _, fun _ _ _ => rfl⟩)
  · exact wpList_append_own w hgd s x t ho base e i z size bytes ht hi hz hsize hby hzs hsz v0 n xs hs hown ad m c news hx hl hn h1 h63 hbytes hbase fun v' w' h2 h3 _ => h v' w' h2 h3
theorem strs_one (ss : List Tx) : ∀ u ∈ ss.map encStr, u.oneCell' = true := fun u hu => by
  obtain ⟨z, _, rfl⟩ := List.mem_map.1 hu
  rfl
theorem strs_of_row {w : World} {base : Nat} {v : Value} {ss : List Tx} (h : w.ownsRow base 9 1 v ss.length (ss.map encStr)) : StrsAt w v ss := by
  obtain ⟨_, h2⟩ := h
  rcases h2 with ⟨rfl, h0⟩ | ⟨g, cap, cur, rfl, hb, hh, hn, hm, hs, ht⟩
  · exact ⟨none, 0, by rw [h0], .inl (List.eq_nil_of_length_eq_zero h0)⟩
  · refine ⟨_, cap, rfl, .inr ⟨g, rfl, fun t htt => ?_⟩⟩
    have e : cur[t]? = some (encStr ss[t]!) := by
      have h1 : (cur.toList.take (ss.length * 1))[t]? = (ss.map encStr)[t]? := by rw [ht]
      rw [List.getElem?_take, if_pos (by omega), Array.getElem?_toList] at h1
      rw [h1, List.getElem?_map, List.getElem?_eq_getElem htt, getElem!_pos ss t htt]
      rfl
    simp only [World.cell?, hh]
    exact e
/-- Where the search for a text's place ends. -/
theorem split_at {s : Tx} : ∀ {ss : List Tx} {k : Nat}, (∀ j, j < k → ss[j]! < s) → k ≤ ss.length → (k = ss.length ∨ ¬ ss[k]! < s) → ss.takeWhile (fun x => decide (x < s)) = ss.take k ∧ ss.dropWhile (fun x => decide (x < s)) = ss.drop k
  | [], k, _, hk, _ => by
    obtain rfl : k = 0 := by simpa using hk
    exact ⟨rfl, rfl⟩
  | y :: r, 0, _, _, h2 => by
    have h : ¬ y < s := h2.resolve_left (by simp)
    rw [List.takeWhile_cons_of_neg (p := fun x => decide (x < s)) (by simpa using h), List.dropWhile_cons_of_neg (p := fun x => decide (x < s)) (by simpa using h)]
    exact ⟨rfl, rfl⟩
  | y :: r, k + 1, h1, hk, h2 => by
    have h : y < s := h1 0 (by omega)
    obtain ⟨e1, e2⟩ := split_at (ss := r) (k := k) (fun j hj => by have := h1 (j + 1) (by omega); simpa using this) (by simpa using hk) (by
      rcases h2 with h2 | h2
      · exact .inl (by simpa using h2)
      · exact .inr (by simpa using h2))
    rw [List.takeWhile_cons_of_pos (p := fun x => decide (x < s)) (decide_eq_true h), List.dropWhile_cons_of_pos (p := fun x => decide (x < s)) (decide_eq_true h), e1, e2]
    exact ⟨rfl, rfl⟩
end Go.Proofs.YtdnebclemngdcaaGreatDoor
