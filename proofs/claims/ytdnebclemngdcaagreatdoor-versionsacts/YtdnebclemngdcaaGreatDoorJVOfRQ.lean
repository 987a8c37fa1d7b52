/- For the reference's enter: appending to a row of one's own; where a text's place is; For the reference's enter: texts from a block's beginning on; For the reference's OpsOf: rows of ops with their dots, parts of them, where an op goes in; The reference's OpsOf by its contract. -/
import Derived.Test.YtdnebclemngdcaaGreatDoorJVOfRL
import Derived.Test.YtdnebclemngdcaaGreatDoorJVSame
namespace Go.Proofs.YtdnebclemngdcaaGreatDoor
open Go.RowKit Go.Sort Go.Maps
set_option maxRecDepth 100000
set_option linter.unusedSectionVars false
variable [Inhabited ComV] [DecidableEq D3] [Inhabited D3] [Inhabited Dd] [Inhabited Dn] [Inhabited OpV]

theorem wpList_append_own_src {w : World} {ops : Array Oper} {rest : List Oper} {o : Oper} {a : Act} {Q : Exit → Act → World → Prop} (hgd : o.guard = none) (s x : Operand) (t : TypeId)
    (ho : o.op = .call { callee := .builtin .append, args := #[s, x], argTypes := #[t, t] })
    (base : Nat) (e : TypeId) (i : TypeInfo) (z : Value) (size bytes : Nat) (ht : Tryz.prog.underlying t = some (.slice e)) (hi : Tryz.prog.info? e = some i) (hz : i.zero = some z)
    (hsize : i.size = size) (hby : i.bytes = bytes) (hzs : z.cells.size = size) (hsz : 0 < size)
    (v0 : Value) (n : Nat) (xs : List Value) (hs : a.eval s = v0) (hown : w.ownsRow base e size v0 n xs) (v : Value) (m : Nat) (news : List Value) (hx : a.eval x = v) (hv : SrcAt w v m size news) (h1 : ∀ u ∈ news, u.oneCell' = true)
    (h63 : n + m ≤ maxLen) (hbytes : (n + m) * bytes ≤ 140737488355328) (hbase : base ≤ w.heap.size)
    (h : ∀ v' w', w'.ownsRow base e size v' (n + m) (xs ++ news) → w.grownBy w' v0.ownBlock → wpList Tryz.prog ops Q rest (a.put o.dst v') w') : wpList Tryz.prog ops Q (o :: rest) a w := by
  rcases hv with ⟨rfl, rfl, rfl⟩ | ⟨ad, c, rfl, hl, hn⟩
  · exact wpList_append_own_none hgd s x t ho base e i size ht hi v0 n xs hs hown hx (h _ _ (by simpa using hown) ⟨rfl, rfl, rfl, Nat.le_refl _, fun _ _ _ => rfl⟩)
  · exact wpList_append_own w hgd s x t ho base e i z size bytes ht hi hz hsize hby hzs hsz v0 n xs hs hown ad m c news hx hl hn h1 h63 hbytes hbase fun v' w' h2 h3 _ => h v' w' h2 h3
theorem strs_one (ss : List Tx) : ∀ u ∈ ss.map encStr, u.oneCell' = true := fun u hu => by
  obtain ⟨z, _, rfl⟩ := List.mem_map.1 hu; rfl
theorem strs_of_row {w : World} {base : Nat} {v : Value} {ss : List Tx} (h : w.ownsRow base 9 1 v ss.length (ss.map encStr)) : StrsAt w v ss := by
  obtain ⟨_, h2⟩ := h; rcases h2 with ⟨rfl, h0⟩ | ⟨g, cap, cur, rfl, hb, hh, hn, hm, hs, ht⟩
  · exact ⟨none, 0, by rw [h0], .inl (List.eq_nil_of_length_eq_zero h0)⟩
  · refine ⟨_, cap, rfl, .inr ⟨g, rfl, fun t htt => ?_⟩⟩
    have e : cur[t]? = some (encStr ss[t]!) := by
      have h1 : (cur.toList.take (ss.length * 1))[t]? = (ss.map encStr)[t]? := by rw [ht]
      rw [List.getElem?_take, if_pos (by omega), Array.getElem?_toList] at h1; rw [h1, List.getElem?_map, List.getElem?_eq_getElem htt, getElem!_pos ss t htt]; rfl
    simp only [World.cell?, hh]; exact e
theorem split_at {s : Tx} : ∀ {ss : List Tx} {k : Nat}, (∀ j, j < k → ss[j]! < s) → k ≤ ss.length → (k = ss.length ∨ ¬ ss[k]! < s) → ss.takeWhile (fun x => decide (x < s)) = ss.take k ∧ ss.dropWhile (fun x => decide (x < s)) = ss.drop k
  | [], k, _, hk, _ => by
    obtain rfl : k = 0 := by simpa using hk
    exact ⟨rfl, rfl⟩
  | y :: r, 0, _, _, h2 => by
    have h : ¬ y < s := h2.resolve_left (by simp); rw [List.takeWhile_cons_of_neg (p := fun x => decide (x < s)) (by simpa using h), List.dropWhile_cons_of_neg (p := fun x => decide (x < s)) (by simpa using h)]; exact ⟨rfl, rfl⟩
  | y :: r, k + 1, h1, hk, h2 => by
    have h : y < s := h1 0 (by omega)
    obtain ⟨e1, e2⟩ := split_at (ss := r) (k := k) (fun j hj => by have := h1 (j + 1) (by omega); simpa using this) (by simpa using hk) (by
      rcases h2 with h2 | h2
      · exact .inl (by simpa using h2)
      · exact .inr (by simpa using h2))
    rw [List.takeWhile_cons_of_pos (p := fun x => decide (x < s)) (decide_eq_true h), List.dropWhile_cons_of_pos (p := fun x => decide (x < s)) (decide_eq_true h), e1, e2]; exact ⟨rfl, rfl⟩
end Go.Proofs.YtdnebclemngdcaaGreatDoor
namespace Go.Proofs.YtdnebclemngdcaaGreatDoor
open Go.RowKit Go.Sort Go.Maps
set_option maxRecDepth 100000
set_option linter.unusedSectionVars false
variable [Inhabited ComV] [DecidableEq D3] [Inhabited D3] [Inhabited Dd] [Inhabited Dn] [Inhabited OpV]

def StrsG (w : World) (v : Value) (ss : List Tx) : Prop := (v = .slice none 0 0 ∧ ss = []) ∨ ∃ b cap, v = .slice (some ⟨b, 0, none⟩) ss.length cap ∧ ss.length ≤ cap ∧ ∀ t, t < ss.length → w.cell? ⟨b, t, none⟩ = some (encStr ss[t]!)
theorem StrsG.strs {w : World} {v : Value} {ss : List Tx} (h : StrsG w v ss) : StrsAt w v ss := by
  rcases h with ⟨rfl, rfl⟩ | ⟨b, cap, rfl, _, h⟩
  · exact strs_nil w
  · exact ⟨_, cap, rfl, .inr ⟨b, rfl, h⟩⟩
theorem StrsG.mono {w w' : World} {v : Value} {ss : List Tx} {B : Nat} (h : StrsG w v ss) (hb : Below B w w') (hB : w.heap.size ≤ B) : StrsG w' v ss := by
  rcases h with h | ⟨b, cap, rfl, h1, h⟩
  · exact .inl h
  · exact .inr ⟨b, cap, rfl, h1, fun t ht => by rw [hb.cell (Nat.lt_of_lt_of_le (lt_of_cell (h t ht)) hB)]; exact h t ht⟩
theorem strsG_of_row {w : World} {base n : Nat} {v : Value} {ss : List Tx} (h : w.ownsRow base 9 1 v n (ss.map encStr)) (hn : n = ss.length) : StrsG w v ss := by
  subst hn; obtain ⟨_, h2⟩ := h; rcases h2 with ⟨rfl, h0⟩ | ⟨g, cap, cur, rfl, hb, hh, hn, hm, hs, ht⟩
  · exact .inl ⟨rfl, List.eq_nil_of_length_eq_zero h0⟩
  · refine .inr ⟨g, cap, rfl, hn, fun t htt => ?_⟩
    have e : cur[t]? = some (encStr ss[t]!) := by
      have h1 : (cur.toList.take (ss.length * 1))[t]? = (ss.map encStr)[t]? := by rw [ht]
      rw [List.getElem?_take, if_pos (by omega), Array.getElem?_toList] at h1; rw [h1, List.getElem?_map, List.getElem?_eq_getElem htt, getElem!_pos ss t htt]; rfl
    simp only [World.cell?, hh]; exact e
theorem src_part {w : World} {b : Nat} {ss : List Tx} (h : ∀ t, t < ss.length → w.cell? ⟨b, t, none⟩ = some (encStr ss[t]!)) (s m cap : Nat) (hm : s + m ≤ ss.length) : SrcAt w (.slice (some ⟨b, s, none⟩) m cap) m 1 (((ss.drop s).take m).map encStr) := by
  refine .inr ⟨_, cap, rfl, by simp; omega, fun j u hu => ?_⟩; have hj : j < m := by have := (List.getElem?_eq_some_iff.1 hu).1; simp at this; omega
  rw [List.getElem?_map, List.getElem?_take, if_pos hj, List.getElem?_drop, List.getElem?_eq_getElem (by omega)] at hu; obtain rfl := Option.some.inj hu; rw [Addr.add_lit, h (s + j) (by omega), getElem!_pos ss (s + j) (by omega)]
theorem src_ite {w : World} {p : Prop} [Decidable p] {a b : Addr} {c size : Nat} : SrcAt w (.slice (if p then some a else some b) 0 c) 0 size [] := by
  split
  · exact .inr ⟨a, c, rfl, by simp, fun j u hu => by simp at hu⟩
  · exact .inr ⟨b, c, rfl, by simp, fun j u hu => by simp at hu⟩
def EnterRet (ss : List Tx) (t : Tx) (w : World) (e : Ending) (w' : World) : Prop := ∃ v', e = .returned v' ∧ StrsG w' v' (enterL ss t) ∧ Below w.heap.size w w'
theorem encStr_data' (t : ByteArray) : encStr t.data.toList = .string t := encStr_data t
end Go.Proofs.YtdnebclemngdcaaGreatDoor
namespace Go.Proofs.YtdnebclemngdcaaGreatDoor
open Go.RowKit Go.Sort Go.Maps
set_option maxRecDepth 100000
set_option linter.unusedSectionVars false
variable [Inhabited ComV] [DecidableEq D3] [Inhabited D3] [Inhabited Dd] [Inhabited Dn] [Inhabited OpV]

theorem Dd.flat_len (xs : List Dd) : (xs.flatMap Dd.enc).length = xs.length * 11 := by
  induction xs with
  | nil => rfl
  | cons x r ih => rw [List.flatMap_cons, List.length_append, ih, List.length_cons, Dd.enc_length]; omega
theorem dns_one (xs : List Dd) : ∀ u ∈ xs.flatMap Dd.enc, u.oneCell' = true := fun u hu => by
  obtain ⟨d, _, h⟩ := List.mem_flatMap.1 hu; exact Dd.enc_one d u h
theorem dns_of_owns {w : World} {base e n : Nat} {v : Value} {xs : List Dd} (h : w.ownsRow base e 11 v n (xs.flatMap Dd.enc)) (hn : n = xs.length) (hg : ∀ x ∈ xs, GoodD w x) : DnsAt w v xs :=
  ⟨rowAt_of_owns (rows := xs.map Dd.enc) (by rw [← List.flatMap_def]; exact h) (by simp [hn]) (fun r hr => by obtain ⟨x, _, rfl⟩ := List.mem_map.1 hr; exact Dd.enc_length x), hg⟩
theorem src_dns {w : World} {b n c : Nat} {xs : List Dd} (h : DnsAt w (.slice (some ⟨b, 0, none⟩) n c) xs) (s m c' : Nat) (hm : s + m ≤ xs.length) : SrcAt w (.slice (some ⟨b, s * 11, none⟩) m c') m 11 (((xs.drop s).take m).flatMap Dd.enc) := by
  refine .inr ⟨_, c', rfl, by rw [Dd.flat_len]; simp; omega, fun j u hu => ?_⟩; have hjl : j < m * 11 := by have := (List.getElem?_eq_some_iff.1 hu).1; rw [Dd.flat_len] at this; simp at this; omega
  have hq : j / 11 < m := by omega
  have hq' : j / 11 < ((xs.drop s).take m).length := by simp; omega
  have e := flat_get ((xs.drop s).take m) (j / 11) (j % 11) hq' (by omega); rw [show j / 11 * 11 + j % 11 = j by omega, hu] at e
  have hx : ((xs.drop s).take m)[j / 11]! = xs[s + j / 11]! := by
    rw [getElem!_pos ((xs.drop s).take m) (j / 11) hq', getElem!_pos xs (s + j / 11) (by omega)]; simp
  rw [hx] at e; obtain ⟨b', off', he, hc⟩ := h.cell (k := s + j / 11) (by omega); injection he with he; injection he with e1 e2 _; subst e1 e2
  have := hc (j % 11) u (by
    rw [List.getElem?_eq_getElem (by rw [Dd.enc_length]; omega)]; rw [getElem!_pos _ _ (by rw [Dd.enc_length]; omega)] at e; exact e.symm)
  rw [Addr.add_lit, ← this]
  congr 2
  omega
theorem src_dns' {w : World} {b n c : Nat} {xs : List Dd} (h : DnsAt w (.slice (some ⟨b, 0, none⟩) n c) xs) (s m c' X m' : Nat) (hm : s + m ≤ xs.length) (hX : X = s * 11) (hm' : m' = m) : SrcAt w (.slice (some ⟨b, X, none⟩) m' c') m 11 (((xs.drop s).take m).flatMap Dd.enc) := by
  subst hX hm'; exact src_dns h s _ c' hm
structure AllInv (w wr : World) (v : Value) (acc : List Dn) : Prop where
  row : ∃ xs : List Dd, wr.ownsRow w.heap.size 113 11 v xs.length (xs.flatMap Dd.enc) ∧ xs.map Dd.abs = acc ∧ ∀ x ∈ xs, GoodD w x
  below : Below w.heap.size w wr
theorem AllInv.start (w : World) : AllInv w w (.slice none 0 0) [] := ⟨⟨[], World.ownsRow_nil _ _ _ _, rfl, fun x hx => by simp at hx⟩, Below.refl _ _⟩
theorem AllInv.moved {w wr w' : World} {v : Value} {acc : List Dn} (h : AllInv w wr v acc) (hb : Below wr.heap.size wr w') : AllInv w w' v acc :=
  ⟨let ⟨xs, h1, h2⟩ := h.row; ⟨xs, owns_below h1 fun b _ hc => hb.block b (lt_of_heap hc), h2⟩, h.below.trans (hb.mono h.below.size)⟩
theorem split_atN {x : Dn} : ∀ {ys : List Dn} {k : Nat}, (∀ j, j < k → ltN ys[j]! x = true) → k ≤ ys.length → (k = ys.length ∨ ltN ys[k]! x = false) → insN ys x = ys.take k ++ x :: ys.drop k
  | [], k, _, hk, _ => by
    obtain rfl : k = 0 := by simpa using hk
    rfl
  | y :: r, 0, _, _, h2 => by
    have h : ltN y x = false := h2.resolve_left (by simp); unfold insN insAt; rw [List.takeWhile_cons_of_neg (p := fun y => ltN y x) (by simpa using h), List.dropWhile_cons_of_neg (p := fun y => ltN y x) (by simpa using h)]; rfl
  | y :: r, k + 1, h1, hk, h2 => by
    have h : ltN y x = true := h1 0 (by omega)
    have ih := split_atN (x := x) (ys := r) (k := k) (fun j hj => by have := h1 (j + 1) (by omega); simpa using this) (by simpa using hk) (by
      rcases h2 with h2 | h2
      · exact .inl (by simpa using h2)
      · exact .inr (by simpa using h2))
    unfold insN insAt at ih ⊢; rw [List.takeWhile_cons_of_pos (p := fun y => ltN y x) h, List.dropWhile_cons_of_pos (p := fun y => ltN y x) h, List.cons_append, ih]; rfl
theorem hasDot_take {acc : List Dn} {j : Nat} (h : j < acc.length) (d : D3) : hasDot (acc.take (j + 1)) d = (hasDot (acc.take j) d || decide (acc[j]!.dot = d)) := by
  rw [List.take_succ_eq_append_getElem h, hasDot_append, getElem!_pos acc j h]
def keyTo (key : ByteArray) (acc : List Dn) (k : Nat) : List Dn := (acc.take k).filter fun x => decide (x.o.key = key)
theorem keyTo_succ {key : ByteArray} {acc : List Dn} {k : Nat} (h : k < acc.length) : keyTo key acc (k + 1) = if acc[k]!.o.key = key then keyTo key acc k ++ [acc[k]!] else keyTo key acc k := by
  unfold keyTo; rw [List.take_succ_eq_append_getElem h, List.filter_append, getElem!_pos acc k h]
  by_cases hk : acc[k].o.key = key
  · rw [if_pos hk]; simp [hk]
  · rw [if_neg hk]; simp [hk]
theorem sortR_snoc (l : List Dn) (x : Dn) : sortR (l ++ [x]) = insN (sortR l) x := by
  unfold sortR; rw [List.foldl_append]; rfl
theorem sortR_len (l : List Dn) : (sortR l).length = l.length := (sortR_perm l).length_eq
theorem keyTo_len (key : ByteArray) (acc : List Dn) (k : Nat) : (keyTo key acc k).length ≤ acc.length := by
  unfold keyTo; exact Nat.le_trans (List.length_filter_le _ _) (by simp; omega)
def kindTo (ys : List Dn) (k : Nat) : List Dn := (ys.take k).filter fun x => decide (x.o.kind = ys[0]!.o.kind)
theorem kindTo_succ {ys : List Dn} {k : Nat} (h : k < ys.length) : kindTo ys (k + 1) = if ys[k]!.o.kind = ys[0]!.o.kind then kindTo ys k ++ [ys[k]!] else kindTo ys k := by
  unfold kindTo; rw [List.take_succ_eq_append_getElem h, List.filter_append, getElem!_pos ys k h]
  by_cases hk : ys[k].o.kind = ys[0]!.o.kind
  · rw [if_pos hk]; simp only [List.filter_cons, decide_eq_true hk, if_true, List.filter_nil]
  · rw [if_neg hk]; simp only [List.filter_cons, decide_eq_false hk, Bool.false_eq_true, if_false, List.filter_nil, List.append_nil]
theorem kindTo_all (ys : List Dn) : kindTo ys ys.length = ofKind ys := by unfold kindTo ofKind; rw [List.take_length]
theorem kindTo_len (ys : List Dn) (k : Nat) : (kindTo ys k).length ≤ ys.length := by
  unfold kindTo; exact Nat.le_trans (List.length_filter_le _ _) (by simp; omega)
theorem AllInv.step {w wr w2 : World} {v v' : Value} {acc : List Dn} {o2 : Obj} {xs : List Dd} {x : Dd} (hx : GoodD w x) (hb : Below w.heap.size w wr) (hrow : wr.ownsRow w.heap.size 113 11 v xs.length (xs.flatMap Dd.enc)) (habs : xs.map Dd.abs = acc) (hgood : ∀ x ∈ xs, GoodD w x)
    (hg2 : (wr.alloc o2).grownBy w2 v.ownBlock) (hr2 : w2.ownsRow w.heap.size 113 11 v' (xs.length + 1) (xs.flatMap Dd.enc ++ x.enc)) : AllInv w w2 v' (acc ++ [x.abs]) where
  row := ⟨xs ++ [x], by simpa using hr2, by simp [habs], fun y hy => by
    rcases List.mem_append.1 hy with h | h
    · exact hgood y h
    · rw [List.mem_singleton.1 h]; exact hx⟩
  below := (hb.alloc hb.size o2).grown hg2 (by have := hb.size; simp; omega) (fun j hj => (hrow.lt j hj).1)
theorem owns_base {w : World} {B B' e size n : Nat} {v : Value} {xs : List Value} (h : w.ownsRow B e size v n xs) (hB : B' ≤ B) : w.ownsRow B' e size v n xs := by
  obtain ⟨h1, h2⟩ := h; refine ⟨h1, ?_⟩; rcases h2 with h2 | ⟨g, cap, cur, e1, e2, e3⟩
  · exact .inl h2
  · exact .inr ⟨g, cap, cur, e1, Nat.le_trans hB e2, e3⟩
theorem AllInv.insert {w4 w5 : World} {B : Nat} {v5 : Value} {ys : List Dd} {z : Dd} {acc : List Dn} {j ny : Nat} (hys : ys.map Dd.abs = acc) (hny : ny = ys.length) (hj : j ≤ ny) (hlo : ∀ t, t < j → ltN ys[t]!.abs z.abs = true) (hhi : j = ny ∨ ltN ys[j]!.abs z.abs = false) (hgood : ∀ x ∈ ys, GoodD w4 x) (hz : GoodD w4 z)
    (hrow : w5.ownsRow B 113 11 v5 (j + 1 + (ny - j)) (((ys.drop 0).take j).flatMap Dd.enc ++ z.enc ++ ((ys.drop j).take (ny - j)).flatMap Dd.enc)) (hB : w4.heap.size ≤ B) (hb : Below w4.heap.size w4 w5) : AllInv w4 w5 v5 (insN acc z.abs) := by
  have hget : ∀ t, t < ys.length → (ys.map Dd.abs)[t]! = ys[t]!.abs := fun t ht => by
    rw [getElem!_pos (ys.map Dd.abs) t (by simpa using ht), List.getElem_map, getElem!_pos ys t ht]
  have hins : insN acc z.abs = (ys.map Dd.abs).take j ++ z.abs :: (ys.map Dd.abs).drop j := by
    rw [← hys]; refine split_atN (fun t ht => by rw [hget t (by omega)]; exact hlo t ht) (by simp; omega) ?_
    by_cases he : j = ny
    · exact .inl (by simp; omega)
    · exact .inr (by rw [hget j (by omega)]; exact hhi.resolve_left he)
  refine ⟨⟨ys.take j ++ z :: ys.drop j, ?_, ?_, ?_⟩, hb⟩
  · have h1 := owns_base hrow hB; rw [List.drop_zero, List.take_of_length_le (by simp; omega : (ys.drop j).length ≤ ny - j)] at h1; have h2 : (ys.take j ++ z :: ys.drop j).length = j + 1 + (ny - j) := by simp; omega
    rw [h2]
    simpa using h1
  · rw [hins]; simp
  · intro x hx; rcases List.mem_append.1 hx with h | h
    · exact hgood x (List.mem_of_mem_take h)
    · rcases List.mem_cons.1 h with rfl | h
      · exact hz
      · exact hgood x (List.mem_of_mem_drop h)
theorem joined {p q : Prop} (h : p → q) (hp : p) : q := h hp
def OpsOfRet (key : ByteArray) (l : List ComV) (w : World) (e : Ending) (w' : World) : Prop := ∃ v xs, e = .returned v ∧ DnsAt w' v xs ∧ xs.map Dd.abs = opsR key l ∧ Below w.heap.size w w'
end Go.Proofs.YtdnebclemngdcaaGreatDoor
namespace Go.Proofs.YtdnebclemngdcaaGreatDoor
open Go.RowKit Go.Sort Go.Maps
set_option maxRecDepth 100000
set_option linter.unusedSectionVars false
variable [Inhabited ComV] [DecidableEq D3] [Inhabited D3] [Inhabited Dd] [Inhabited Dn] [Inhabited OpV]

theorem Tryz.info113 : (Tryz.prog.info? 113).map (fun i => (i.zero, i.size, i.bytes)) = some (some (.agg #[.int .i64 0, .string ByteArray.empty, .int .i64 0, .string ByteArray.empty, .int .i64 0, .bool false, .slice none 0 0, .int .i64 0, .int .i64 0, .int .i64 0, .int .i64 0]), 11, 120) := by kernel_rfl
theorem ints_alloc {w : World} {v : Value} {zs : List Int} (h : IntsAt w v zs) (o : Obj) : IntsAt (w.alloc o) v zs := h.mono (below_alloc w o) (Nat.le_refl _)
theorem addTo_len {l : List ComV} {k m : Nat} {acc : List Dn} {x : ComV} (hC : ComOk x) (hA : acc = (l.take k).foldl addCom []) (hM : m = l.length) (hK : ∀ i, i < m → ComOk l[i]!) {j : Nat} (hk : k < m) (hj : j ≤ x.ops.length) : (addTo acc x j).length ≤ 12 * (k + 1) := by
  have hacc : acc.length ≤ 12 * k := by
    have h1 := onceA_len (l.take k) (fun c hc => by
      have hc' := List.mem_of_mem_take hc; obtain ⟨i, hi, rfl⟩ := List.getElem_of_mem hc'; have := (hK i (by omega)).few; rwa [getElem!_pos l i hi] at this)
    rw [hA]; have h2 : (l.take k).length ≤ k := by simp; omega
    unfold onceA at h1; omega
  have h2 : ∀ (ds : List Dn) (acc : List Dn), (ds.foldl addDn acc).length ≤ acc.length + ds.length := by
    intro ds
    induction ds with
    | nil => intro acc; simp
    | cons d r ih =>
      intro acc; have h1 := ih (addDn acc d); have h2 := addDn_len acc d; rw [List.foldl_cons, List.length_cons]; omega
  have h3 := h2 ((x.ops.take j).map (dnOf x)) acc; have h4 : ((x.ops.take j).map (dnOf x)).length ≤ j := by simp; omega
  have h5 := hC.few; unfold addTo; omega
set_option maxHeartbeats 8000000 in
theorem opsOf_any (w : World) (key : ByteArray) (v : Value) (l : List ComV) (hv : ComsAt w v l) (hl : l.length ≤ 1000) (hok : ∀ i, i < l.length → ComOk l[i]!) :
    Calls Tryz.prog 58 #[.string key, v] w fun e w' => OpsOfRet key l w e w' := by
  obtain ⟨i0, hi, hz0, hz1, hz2⟩ := info_parts Tryz.info113; obtain ⟨ad, cap, rfl, _, _, ho⟩ := hv.shape; obtain ⟨m, hm⟩ : ∃ m, m = l.length := ⟨_, rfl⟩; rw [← hm] at hl hok ⊢; have HO := hid ho; have HM := hid hm; have HK := hid hok
  have HLEN : Hid ((onceA l).length ≤ 12 * m) := by
    rw [hm]; exact onceA_len l (fun c hc => by obtain ⟨i, hi, rfl⟩ := List.getElem_of_mem hc; have := (hok i (by omega)).few; rwa [getElem!_pos l i hi] at this)
  clear ho hm hok hv; go_enter Tryz.func58, Tryz.ntmps58; go_wp2
  go_loopw [5, 6] (fun v i wr => ∃ k : Nat, k ≤ m ∧ i = .int .i64 k ∧ Hid (AllInv w wr v ((l.take k).foldl addCom []))) (fun _ i _ => m - (intOf i).toNat)
  case atStart => exact ⟨0, Nat.zero_le _, rfl, AllInv.start w⟩
  case round =>
    obtain ⟨k, hk, rfl, HI⟩ := hrel
    by_cases hlt : k < m
    · obtain ⟨b, off, rfl, ho'⟩ := HO.out.resolve_left (fun h => by have := HM.out; rw [h] at this; simp at this; omega); obtain ⟨wv, ov, hi', hop, q0, q1, q2⟩ := ho' k (by have := HM.out; omega); have up : ∀ {a : Addr} {v : Value}, w.cell? a = some v → wr.cell? a = some v := fun {a v} h => by rw [HI.out.below.cell (lt_of_cell h)]; exact h
      have r2 := up q2; have hC := HK.out k hlt; obtain ⟨x, hx⟩ : ∃ x, x = l[k]! := ⟨_, rfl⟩; rw [← hx] at q1 hC hi' hop; have HX := hid hx; have HI0 := hid hi'; obtain ⟨a1, c1, rfl, _, hw⟩ := hi'; obtain ⟨a2, c2, rfl, _, _, hos⟩ := hop.shape
      obtain ⟨b1, o1, rfl, hw2⟩ : ∃ b1 o1, a1 = some ⟨b1, o1, none⟩ ∧ ∀ t, t < x.when_.length → w.cell? ⟨b1, o1 + t, none⟩ = some (.int .i64 (x.when_.getD t 0)) := by
        rcases hw with h | h
        · have := (chk_zero.1 hC.chk).1; rw [h] at this; simp at this
        · exact h
      obtain ⟨b2, o2, rfl, hos2⟩ := hos.resolve_left hC.some_; obtain ⟨p, hp⟩ : ∃ p : Nat, x.place = p := ⟨x.place.toNat, by have := hC.lo; omega⟩; have hplt : p < x.when_.length := by have := hC.hi; omega
      have ct := hw2 p hplt; obtain ⟨T, hT⟩ : ∃ T, T = x.when_.getD p 0 := ⟨_, rfl⟩; rw [← hT] at ct; rw [hp] at q1; have HOS := hid hos2; have HT := hid hT; have HP := hid hp; have HC := hid hC; obtain ⟨n, hn⟩ : ∃ n, n = x.when_.length := ⟨_, rfl⟩; rw [← hn] at HI0 q0 hplt; obtain ⟨mo, hmo⟩ : ∃ mo, mo = x.ops.length := ⟨_, rfl⟩; rw [← hmo] at r2 q2; have hmo12 : mo ≤ 12 := by rw [hmo]; exact hC.few
      have HMO := hid hmo; obtain ⟨sw, hsw⟩ : ∃ sw, sw = sum x.when_ := ⟨_, rfl⟩; have HSW := hid hsw; have hn6 : n ≤ 6 := by rw [hn]; exact (chk_zero.1 hC.chk).2.1
      have Q0 := hid q0; have Q1 := hid q1; have Q2 := hid q2; have CT := hid ct; obtain ⟨acc, hacc⟩ : ∃ acc, acc = (l.take k).foldl addCom [] := ⟨_, rfl⟩; rw [← hacc] at HI; have HA := hid hacc; clear q0 q1 q2 hop hx hw hos hw2 hos2 hT hp hC hn hmo hsw up ct hacc ho'; go_wp2; clear r2
      go_loopw [5, 7] (fun v i wj => ∃ j : Nat, j ≤ mo ∧ i = .int .i64 j ∧ Hid (AllInv w wj v (addTo acc x j))) (fun _ i _ => mo - (intOf i).toNat)
      case atStart => exact ⟨0, Nat.zero_le _, rfl, by rw [addTo_zero]; exact HI.out⟩
      case round =>
        obtain ⟨j, hj, rfl, JI⟩ := hrel; have up : ∀ {a : Addr} {v : Value}, w.cell? a = some v → wr.cell? a = some v := fun {a v} h => by rw [JI.out.below.cell (lt_of_cell h)]; exact h
        have r2 := up Q2.out
        by_cases hjl : j < mo
        · obtain ⟨dp, dc, hd, p0, p1, p2, p3, p4, p5, p6⟩ := HOS.out j (by have := HMO.out; omega); have t0 := up p0; have t1 := up p1; have t2 := up p2; have t3 := up p3; have t4 := up p4; have t5 := up p5; have t6 := up p6; obtain ⟨y, hy⟩ : ∃ y, y = x.ops[j]! := ⟨_, rfl⟩; rw [← hy] at t0 t1 t2 t3 t4 t5 t6 hd; have HY := hid hy; obtain ⟨x1, x2, x3, x4, x5, x6, ds⟩ := y; simp only at t0 t1 t2 t3 t4 t5 t6 hd; obtain ⟨dl, hdl⟩ : ∃ dl, dl = ds.length := ⟨_, rfl⟩; rw [← hdl] at t6 hd; have HD := hid hd; clear p0 p1 p2 p3 p4 p5 p6 hy hdl hd up; obtain ⟨wq, hwq⟩ : ∃ wq, wq = wr.alloc (.cells #[.int .i64 x1, .string x2, .int .i64 x3, .string x4, .int .i64 x5, .bool x6, .slice dp dl dc] 76) := ⟨_, rfl⟩; go_upto_region 9 with (fail); rw [← hwq]; obtain ⟨y0, y1, y2, y3, y4, y5, y6⟩ := cells7 wr x1 x2 x3 x4 x5 x6 (.slice dp dl dc) 76; rw [← hwq] at y0 y1 y2 y3 y4 y5 y6
          have bq : Below w.heap.size w wq := by rw [hwq]; exact JI.out.below.alloc JI.out.below.size _
          have IQ : Hid (AllInv w wq u5 (addTo acc x j)) := by rw [hwq]; exact JI.out.moved (below_alloc _ _)
          have upq : ∀ {a : Addr} {v : Value}, w.cell? a = some v → wq.cell? a = some v := fun {a v} h => by rw [bq.cell (lt_of_cell h)]; exact h
          have s0 := upq Q0.out; have s1 := upq Q1.out; have s2 := upq CT.out; have HIQ : IntsAt wq (.slice (some ⟨b1, o1, none⟩) n c1) x.when_ := HI0.out.mono bq (Nat.le_refl _); have KW := fun W (h : IntsAt W (.slice (some ⟨b1, o1, none⟩) n c1) x.when_) => refWeight_any W _ _ h HC.out.chk
          rw [← HSW.out] at KW; clear hwq t0 t1 t2 t3 t4 t5 t6 r2 upq bq; refine joined (p := ?gOne) (fun hp => ?main) ?later
          case main =>
            go_region_held (fun w' => w'.cell? ⟨wr.heap.size, 0, none⟩ = some (.int .i64 x1) ∧ w'.cell? ⟨wr.heap.size, 1, none⟩ = some (.string x2) ∧ w'.cell? ⟨wr.heap.size, 2, none⟩ = some (.int .i64 x3) ∧ w'.cell? ⟨wr.heap.size, 3, none⟩ = some (.string x4) ∧ w'.cell? ⟨wr.heap.size, 4, none⟩ = some (.int .i64 x5) ∧ w'.cell? ⟨wr.heap.size, 5, none⟩ = some (.bool x6) ∧ w'.cell? ⟨wr.heap.size, 6, none⟩ = some (.slice dp dl dc) ∧ w'.cell? ⟨b, off + k * 3, none⟩ = some (.slice (some ⟨b1, o1, none⟩) n c1) ∧ w'.cell? ⟨b, off + k * 3 + 1, none⟩ = some (.int .i64 p) ∧ w'.cell? ⟨b1, o1 + p, none⟩ = some (.int .i64 T)) (go_keep) (first | (go_at_call 88; refine (KW _ ?hints).mono ?_; (case hints => first | exact HIQ | exact ints_alloc HIQ _); rintro e w' ⟨rfl, rfl⟩))
            all_goals exact hp
          case later =>
            obtain ⟨wz, hwz⟩ : ∃ wz, wz = (wq.alloc (.cells #[.int .i64 x1, .string x2, .int .i64 x3, .string x4, .int .i64 x5, .bool x6, .slice dp dl dc, .int .i64 p, .int .i64 T, .int .i64 x1, .int .i64 sw] 113)).drew := ⟨_, rfl⟩; rw [← hwz]
            have Z : ∀ i u, [.int .i64 x1, .string x2, .int .i64 x3, .string x4, .int .i64 x5, .bool x6, .slice dp dl dc, .int .i64 p, .int .i64 T, .int .i64 x1, .int .i64 sw][i]? = some u → wz.cell? ⟨wq.heap.size, i, none⟩ = some u := fun i u hu => by
              rw [hwz]; exact (World.cell?_alloc_at _ _ _ _ rfl).trans (by simpa using hu)
            have IZ : AllInv w wz u5 (addTo acc x j) := by rw [hwz]; exact IQ.out.moved (below_draws (below_alloc _ _) 1)
            obtain ⟨ac, hac⟩ : ∃ ac, ac = addTo acc x j := ⟨_, rfl⟩; rw [← hac] at IZ; have HAC := hid hac; have hbz := IZ.below; obtain ⟨xs, hrow, habs, hgood⟩ := IZ.row; have HDN := hid (dns_of_owns hrow rfl (fun x hx => (hgood x hx).mono hbz (Nat.le_refl _))); have hacl : xs.length = ac.length := by rw [← habs, List.length_map]
            obtain ⟨av, cv, rfl⟩ := row_shape hrow; obtain ⟨na, hna⟩ : ∃ na, na = xs.length := ⟨_, rfl⟩; rw [← hna] at HDN hrow hacl ⊢
            have hna4 : na ≤ 12000 := by
              have h1 := addTo_len HC.out HA.out HM.out HK.out (j := j) hlt (by have := HMO.out; omega); rw [← hac] at h1; omega
            have HNA := hid hna; have HAB := hid habs; have HGD := hid hgood; have HROW := hid hrow; have HBZ := hid hbz; have HACL := hid hacl; have z7 := Z 7 _ rfl; have z8 := Z 8 _ rfl; have z9 := Z 9 _ rfl; have Z7 := hid z7; have Z8 := hid z8; have Z9 := hid z9; have HZ := hid Z; clear IZ hrow habs hgood hbz hwz hac hna hacl Z z7 z8 z9 y0 y1 y2 y3 y4 y5 y6 s0 s1 s2 HIQ KW; go_wp2
            go_loopw [10, 11] (fun bv iv wr2 => ∃ (t : Nat) (bb : Bool), t ≤ na ∧ iv = .int .i64 t ∧ bv = .bool bb ∧ Hid (bb = hasDot (ac.take t) ⟨p, T, x1⟩) ∧ Hid (∃ q, wr2 = wz.drewN q)) (fun _ iv _ => na - (intOf iv).toNat)
            case atStart => exact ⟨0, false, Nat.zero_le _, rfl, rfl, by rw [List.take_zero]; rfl, 0, rfl⟩
            case round =>
              obtain ⟨t, bb, ht, rfl, rfl, HB, HQ⟩ := hrel; have up2 : ∀ {a : Addr} {v : Value}, wz.cell? a = some v → wr.cell? a = some v := fun {a v} h => by obtain ⟨q, hq⟩ := HQ.out; rw [hq]; exact h
              by_cases htl : t < na
              · obtain ⟨bx, ox, rfl, hc⟩ := HDN.out.cell (k := t) (by have := HNA.out; omega); have g7 := up2 Z7.out; have g8 := up2 Z8.out; have g9 := up2 Z9.out; obtain ⟨z, hz⟩ : ∃ z, z = xs[t]! := ⟨_, rfl⟩; rw [← hz] at hc
                have hzd : ac[t]!.dot = z.dot := by
                  rw [← HAB.out, getElem!_pos (xs.map Dd.abs) t (by have := HNA.out; simp; omega), List.getElem_map, hz, getElem!_pos xs t (by have := HNA.out; omega)]; rfl
                have HNX : Hid (∀ r, decide (z.dot = ⟨p, T, x1⟩) = r → hasDot (ac.take (t + 1)) ⟨p, T, x1⟩ = (hasDot (ac.take t) ⟨p, T, x1⟩ || r)) := fun r hr => by
                  rw [hasDot_take (by have := HACL.out; omega), hzd, hr]
                clear hz hzd; obtain ⟨z1, z2, z3, z4, z5, z6, zp, zl, zc, ⟨z8, z9, z10⟩, z11, zd⟩ := z; have f7 := up2 (hc 7 _ rfl); have f8 := up2 (hc 8 _ rfl); have f9 := up2 (hc 9 _ rfl); clear hc up2
                by_cases h1 : z8 = p
                · by_cases h2 : z9 = T
                  · by_cases h3 : z10 = x1
                    · subst h1 h2 h3; go_upto_region 14 with (fail)
                      go_quiet (fail)
                      go_wp2; go_roundw
                      case rel => exact ⟨t + 1, true, by omega, by go_num, rfl, by rw [HNX.out true (by simp), Bool.or_true]; exact rfl, by obtain ⟨q, hq⟩ := HQ.out; exact ⟨_, by rw [hq]; exact World.drewN_drewN _ _ _⟩⟩
                      case measure => simp [intOf]; omega
                    · subst h1 h2; have b3 : (z10 == x1) = false := beq_eq_false_iff_ne.2 h3; have HNE : Hid (decide ((⟨p, z9, z10⟩ : D3) = ⟨p, z9, x1⟩) = false) := decide_eq_false (fun e => h3 (by injection e)); clear h3; go_upto_region 14 with (fail)
                      go_quiet (fail)
                      go_wp2; go_roundw
                      case rel => exact ⟨t + 1, bb, by omega, by go_num, rfl, by rw [HNX.out false HNE.out, Bool.or_false]; exact HB.out, by obtain ⟨q, hq⟩ := HQ.out; exact ⟨_, by rw [hq]; exact World.drewN_drewN _ _ _⟩⟩
                      case measure => simp [intOf]; omega
                  · subst h1; have b2 : (z9 == T) = false := beq_eq_false_iff_ne.2 h2; have HNE : Hid (decide ((⟨p, z9, z10⟩ : D3) = ⟨p, T, x1⟩) = false) := decide_eq_false (fun e => h2 (by injection e)); clear h2; go_upto_region 14 with (fail)
                    go_quiet (fail)
                    go_wp2; go_roundw
                    case rel => exact ⟨t + 1, bb, by omega, by go_num, rfl, by rw [HNX.out false HNE.out, Bool.or_false]; exact HB.out, by obtain ⟨q, hq⟩ := HQ.out; exact ⟨_, by rw [hq]; exact World.drewN_drewN _ _ _⟩⟩
                    case measure => simp [intOf]; omega
                · have b1 : (z8 == (p : Int)) = false := beq_eq_false_iff_ne.2 h1; have HNE : Hid (decide ((⟨z8, z9, z10⟩ : D3) = ⟨p, T, x1⟩) = false) := decide_eq_false (fun e => h1 (by injection e)); clear h1; go_upto_region 14 with (fail)
                  go_quiet (fail)
                  go_wp2; go_roundw
                  case rel => exact ⟨t + 1, bb, by omega, by go_num, rfl, by rw [HNX.out false HNE.out, Bool.or_false]; exact HB.out, by obtain ⟨q, hq⟩ := HQ.out; exact ⟨_, by rw [hq]; exact World.drewN_drewN _ _ _⟩⟩
                  case measure => simp [intOf]; omega
              · obtain rfl : t = na := by omega
                have hbb : bb = hasDot ac ⟨p, T, x1⟩ := by rw [HB.out, HACL.out, List.take_length]
                have HBB := hid hbb; obtain ⟨q, hq⟩ := HQ.out; subst hq
                have hdn : (dnOf x ⟨x1, x2, x3, x4, x5, x6, ds⟩) = Dd.abs ⟨x1, x2, x3, x4, x5, x6, dp, dl, dc, ⟨p, T, x1⟩, sw, ds⟩ := by
                  unfold dnOf Dd.abs; rw [HP.out, Int.toNat_natCast, ← HT.out, ← HSW.out]
                have HDNF := hid hdn; clear hbb hdn up2
                cases bb with
                | true =>
                  go_wp2; refine ⟨⟨j + 1, by omega, by go_num, ?_⟩, by simp [intOf]; omega⟩
                  rw [addTo_succ _ _ (by have := HMO.out; omega), ← HY.out, HDNF.out, ← HAC.out]; unfold addDn; rw [if_pos (show hasDot ac (Dd.abs ⟨x1, x2, x3, x4, x5, x6, dp, dl, dc, ⟨p, T, x1⟩, sw, ds⟩).dot = true from HBB.out.symm)]; exact ⟨⟨xs, (by have h := HROW.out; rw [← HNA.out]; exact h), HAB.out, HGD.out⟩, below_draws HBZ.out q⟩
                | false =>
                  have e0 := HZ.out 0 _ rfl; have e1 := HZ.out 1 _ rfl; have e2 := HZ.out 2 _ rfl; have e3 := HZ.out 3 _ rfl; have e4 := HZ.out 4 _ rfl; have e5 := HZ.out 5 _ rfl; have e6 := HZ.out 6 _ rfl; have e7 := HZ.out 7 _ rfl; have e8 := HZ.out 8 _ rfl; have e9 := HZ.out 9 _ rfl; have e10 := HZ.out 10 _ rfl; have hsz := HBZ.out.size; obtain ⟨wy, hwy⟩ : ∃ wy, wy = wz.drewN q := ⟨_, rfl⟩; have hrow' : wy.ownsRow w.heap.size 113 11 (.slice av t cv) t (xs.flatMap Dd.enc) := by rw [hwy]; exact HROW.out
                  have upy : ∀ {a : Addr} {v : Value}, wz.cell? a = some v → wy.cell? a = some v := fun {a v} h => by rw [hwy]; exact h
                  replace e0 := upy e0; replace e1 := upy e1; replace e2 := upy e2; replace e3 := upy e3; replace e4 := upy e4; replace e5 := upy e5; replace e6 := upy e6; replace e7 := upy e7; replace e8 := upy e8; replace e9 := upy e9; replace e10 := upy e10; have hszy : w.heap.size ≤ wy.heap.size := by rw [hwy]; exact hsz
                  have HBY : Hid (Below w.heap.size w wy) := by rw [hwy]; exact below_draws HBZ.out q
                  rw [← hwy]; clear upy hwy hsz
                  go_wp2_with (at_builtin; refine wpList_append_own _ rfl _ _ 110 rfl w.heap.size 113 i0 _ 11 120 Tryz.underlying110 hi hz0 hz1 hz2 rfl (by decide) _ _ _ rfl (hrow'.alloc _) ⟨wy.heap.size, 0, none⟩ 1 1 [.int .i64 x1, .string x2, .int .i64 x3, .string x4, .int .i64 x5, .bool x6, .slice dp dl dc, .int .i64 p, .int .i64 T, .int .i64 x1, .int .i64 sw] rfl rfl (cells11_new _ _ _ _ rfl) ?ho1 ?ho2 ?ho3 ?ho4 ?_; (case ho1 => exact Dd.enc_one ⟨x1, x2, x3, x4, x5, x6, dp, dl, dc, ⟨p, T, x1⟩, sw, ds⟩); (case ho2 => unfold maxLen; omega); (case ho3 => omega); (case ho4 => simp; omega); intro v' w2 hown' hgrow2 hnil2)
                  refine ⟨⟨j + 1, by omega, by go_num, ?_⟩, by simp [intOf]; omega⟩; rw [addTo_succ _ _ (by have := HMO.out; omega), ← HY.out, HDNF.out, ← HAC.out]; unfold addDn; rw [if_neg (by rw [show hasDot ac (Dd.abs ⟨x1, x2, x3, x4, x5, x6, dp, dl, dc, ⟨p, T, x1⟩, sw, ds⟩).dot = false from HBB.out.symm]; decide)]; rw [HNA.out] at hrow' hown'; exact AllInv.step (x := ⟨x1, x2, x3, x4, x5, x6, dp, dl, dc, ⟨p, T, x1⟩, sw, ds⟩) HD.out HBY.out (by rw [← HNA.out] at hrow' ⊢; exact hrow') HAB.out HGD.out hgrow2 hown'
        · obtain rfl : j = mo := by omega
          clear up; go_wp2; refine ⟨⟨k + 1, by omega, by go_num, ?_⟩, by simp [intOf]; omega⟩; rw [once_succ (by have := HM.out; omega), ← HX.out, ← HA.out, ← addTo_all, ← HMO.out]; exact JI.out
    · obtain rfl : k = m := by omega
      have IA : AllInv w wr u5 (onceA l) := by
        have := HI.out; rw [HM.out, List.take_length] at this; exact this
      obtain ⟨w4, hw4⟩ : ∃ w4 : World, w4 = wr := ⟨wr, rfl⟩; subst hw4; have hbw := IA.below; obtain ⟨xs, hrow, habs, hgood⟩ := IA.row; have HDN := hid (dns_of_owns hrow rfl (fun x hx => (hgood x hx).mono hbw (Nat.le_refl _))); have hacl : xs.length = (onceA l).length := by rw [← habs, List.length_map]
      obtain ⟨av, cv, rfl⟩ := row_shape hrow; obtain ⟨na, hna⟩ : ∃ na, na = xs.length := ⟨_, rfl⟩; rw [← hna] at HDN hacl ⊢; have hna4 : na ≤ 12000 := by have := HLEN.out; omega
      have HNA := hid hna; have HAB := hid habs; have HBW := hid hbw; have HACL := hid hacl; clear IA hrow habs hgood hbw hna hacl HI HK HO; go_wp2
      go_loopw [12, 13] (fun v i wr => ∃ s : Nat, s ≤ na ∧ i = .int .i64 s ∧ Hid (AllInv w4 wr v (sortR (keyTo key (onceA l) s)))) (fun _ i _ => na - (intOf i).toNat)
      case atStart => exact ⟨0, Nat.zero_le _, rfl, AllInv.start w4⟩
      case round =>
        obtain ⟨s, hs, rfl, OI⟩ := hrel
        by_cases hsl : s < na
        · obtain ⟨bx, ox, rfl, hc⟩ := HDN.out.cell (k := s) (by have := HNA.out; omega); have hgz := HDN.out.good xs[s]! (by rw [getElem!_pos xs s (by have := HNA.out; omega)]; exact List.getElem_mem _); obtain ⟨z, hz⟩ : ∃ z, z = xs[s]! := ⟨_, rfl⟩; rw [← hz] at hc hgz
          have hzd : (onceA l)[s]! = z.abs := by
            rw [← HAB.out, getElem!_pos (xs.map Dd.abs) s (by have := HNA.out; simp; omega), List.getElem_map, hz, getElem!_pos xs s (by have := HNA.out; omega)]
          have HNO : Hid (z.key ≠ key → sortR (keyTo key (onceA l) (s + 1)) = sortR (keyTo key (onceA l) s)) := fun h => by
            rw [keyTo_succ (by have := HACL.out; omega), hzd, if_neg (show ¬ z.abs.o.key = key from h)]
          have HYE : Hid (z.key = key → sortR (keyTo key (onceA l) (s + 1)) = insN (sortR (keyTo key (onceA l) s)) z.abs) := fun h => by
            rw [keyTo_succ (by have := HACL.out; omega), hzd, if_pos (show z.abs.o.key = key from h), sortR_snoc]
          clear hz hzd; obtain ⟨z1, z2, z3, z4, z5, z6, zp, zl, zc, ⟨z8, z9, z10⟩, z11, zd⟩ := z; have up : ∀ {a : Addr} {v : Value}, w4.cell? a = some v → wr.cell? a = some v := fun {a v} h => by rw [OI.out.below.cell (lt_of_cell h)]; exact h
          have HGZ := hid hgz; have HCC := hid hc; have f1 := up (hc 1 _ rfl); clear hgz
          by_cases hkey : z2 = key
          · subst hkey; have HSU := hid (HYE.out rfl); have hbo := OI.out.below; obtain ⟨ys, hrowy, hys, hgy⟩ := OI.out.row; have HDY := hid (dns_of_owns hrowy rfl (fun x hx => (hgy x hx).mono hbo (Nat.le_refl _)))
            have hnya : ys.length ≤ na := by
              have e1 : ys.length = (sortR (keyTo z2 (onceA l) s)).length := by rw [← hys, List.length_map]
              rw [e1, sortR_len, HACL.out]; exact keyTo_len _ _ _
            obtain ⟨wo, hwo⟩ : ∃ wo : World, wo = wr := ⟨wr, rfl⟩; subst hwo; have HYS := hid hys; have HGY := hid hgy; have HBO := hid hbo; have cases2 := hrowy.2; obtain ⟨ny, hny⟩ : ∃ ny, ny = ys.length := ⟨_, rfl⟩; rw [← hny] at hnya cases2; have HNY := hid hny; clear hrowy hys hgy hbo up HNO HYE OI hc hny
            have hsh : ∃ ay cy, u12 = .slice ay ny cy := by
              rcases cases2 with ⟨e, e0⟩ | ⟨g, cy, cur, e, _⟩
              · exact ⟨none, 0, by rw [e, e0]⟩
              · exact ⟨_, _, e⟩
            obtain ⟨ay, cy, rfl⟩ := hsh
            have HCS : Hid ((ay = none ∧ cy = 0 ∧ ny = 0) ∨ ∃ g, ay = some ⟨g, 0, none⟩ ∧ ny ≤ cy) := by
              rcases cases2 with ⟨e, e0⟩ | ⟨g, cy', cur, e, _, _, hcy, _⟩
              · injection e with e1 e2 e3; exact .inl ⟨e1, e3, e0⟩
              · injection e with e1 e2 e3; exact .inr ⟨g, e1, by omega⟩
            clear cases2; go_wp2
            go_loopw [14] (fun iv wk => ∃ j : Nat, j ≤ ny ∧ iv = .int .i64 j ∧ Hid (Below wo.heap.size wo wk) ∧ Hid (∀ t, t < j → ltN ys[t]!.abs (Dd.abs ⟨z1, z2, z3, z4, z5, z6, zp, zl, zc, ⟨z8, z9, z10⟩, z11, zd⟩) = true)) (fun iv _ => ny - (intOf iv).toNat)
            case atStart => exact ⟨0, Nat.zero_le _, rfl, Below.refl _ _, fun t ht => absurd ht (Nat.not_lt_zero _)⟩
            case round =>
              obtain ⟨j, hj, rfl, HBR, HLO⟩ := hrel; have upk : ∀ {a : Addr} {v : Value}, w4.cell? a = some v → wr.cell? a = some v := fun {a v} h => by rw [(HBO.out.trans (HBR.out.mono HBO.out.size)).cell (lt_of_cell h)]; exact h
              have d0 : wr.cell? ⟨bx, ox + s * 11, none⟩ = some (.int .i64 z1) := upk (HCC.out 0 _ rfl); have d1 : wr.cell? ⟨bx, ox + s * 11 + 1, none⟩ = some (.string z2) := upk (HCC.out 1 _ rfl); have d2 : wr.cell? ⟨bx, ox + s * 11 + 2, none⟩ = some (.int .i64 z3) := upk (HCC.out 2 _ rfl); have d3 : wr.cell? ⟨bx, ox + s * 11 + 3, none⟩ = some (.string z4) := upk (HCC.out 3 _ rfl); have d4 : wr.cell? ⟨bx, ox + s * 11 + 4, none⟩ = some (.int .i64 z5) := upk (HCC.out 4 _ rfl); have d5 : wr.cell? ⟨bx, ox + s * 11 + 5, none⟩ = some (.bool z6) := upk (HCC.out 5 _ rfl); have d6 : wr.cell? ⟨bx, ox + s * 11 + 6, none⟩ = some (.slice zp zl zc) := upk (HCC.out 6 _ rfl); have d7 : wr.cell? ⟨bx, ox + s * 11 + 7, none⟩ = some (.int .i64 z8) := upk (HCC.out 7 _ rfl); have d8 : wr.cell? ⟨bx, ox + s * 11 + 8, none⟩ = some (.int .i64 z9) := upk (HCC.out 8 _ rfl)
              have d9 : wr.cell? ⟨bx, ox + s * 11 + 9, none⟩ = some (.int .i64 z10) := upk (HCC.out 9 _ rfl); have d10 : wr.cell? ⟨bx, ox + s * 11 + 10, none⟩ = some (.int .i64 z11) := upk (HCC.out 10 _ rfl); clear upk
              by_cases hjl : j < ny
              · obtain ⟨g, rfl, hcy⟩ : ∃ g, ay = some ⟨g, 0, none⟩ ∧ ny ≤ cy := HCS.out.resolve_left (fun h => by omega); obtain ⟨bg, og, heq, hcy2⟩ := (HDY.out.mono HBR.out (Nat.le_refl _)).cell (k := j) (by have := HNY.out; omega); injection heq with heq; injection heq with eg eo _; subst eg eo; obtain ⟨y, hy⟩ : ∃ y, y = ys[j]! := ⟨_, rfl⟩; rw [← hy] at hcy2; have HY := hid hy; obtain ⟨y1, y2, y3, y4, y5, y6, yp, yl, yc, ⟨y8, y9, y10⟩, y11, yd⟩ := y; have e0 : wr.cell? ⟨g, j * 11, none⟩ = some (.int .i64 y1) := by have := hcy2 0 _ rfl; rwa [Nat.zero_add] at this
                have e1 : wr.cell? ⟨g, j * 11 + 1, none⟩ = some (.string y2) := by have := hcy2 1 _ rfl; rwa [Nat.zero_add] at this
                have e2 : wr.cell? ⟨g, j * 11 + 2, none⟩ = some (.int .i64 y3) := by have := hcy2 2 _ rfl; rwa [Nat.zero_add] at this
                have e3 : wr.cell? ⟨g, j * 11 + 3, none⟩ = some (.string y4) := by have := hcy2 3 _ rfl; rwa [Nat.zero_add] at this
                have e4 : wr.cell? ⟨g, j * 11 + 4, none⟩ = some (.int .i64 y5) := by have := hcy2 4 _ rfl; rwa [Nat.zero_add] at this
                have e5 : wr.cell? ⟨g, j * 11 + 5, none⟩ = some (.bool y6) := by have := hcy2 5 _ rfl; rwa [Nat.zero_add] at this
                have e6 : wr.cell? ⟨g, j * 11 + 6, none⟩ = some (.slice yp yl yc) := by have := hcy2 6 _ rfl; rwa [Nat.zero_add] at this
                have e7 : wr.cell? ⟨g, j * 11 + 7, none⟩ = some (.int .i64 y8) := by have := hcy2 7 _ rfl; rwa [Nat.zero_add] at this
                have e8 : wr.cell? ⟨g, j * 11 + 8, none⟩ = some (.int .i64 y9) := by have := hcy2 8 _ rfl; rwa [Nat.zero_add] at this
                have e9 : wr.cell? ⟨g, j * 11 + 9, none⟩ = some (.int .i64 y10) := by have := hcy2 9 _ rfl; rwa [Nat.zero_add] at this
                have e10 : wr.cell? ⟨g, j * 11 + 10, none⟩ = some (.int .i64 y11) := by have := hcy2 10 _ rfl; rwa [Nat.zero_add] at this
                have hd : decide ((j : Int) < (ny : Int)) = true := decide_eq_true (by omega); have K90 := fun W => ahead_any W ⟨y1, y2, y3, y4, y5, y6, yp, yl, yc, ⟨y8, y9, y10⟩, y11, yd⟩ ⟨z1, z2, z3, z4, z5, z6, zp, zl, zc, ⟨z8, z9, z10⟩, z11, zd⟩
                obtain ⟨r, hr⟩ : ∃ r, r = ltN (Dd.abs ⟨y1, y2, y3, y4, y5, y6, yp, yl, yc, ⟨y8, y9, y10⟩, y11, yd⟩) (Dd.abs ⟨z1, z2, z3, z4, z5, z6, zp, zl, zc, ⟨z8, z9, z10⟩, z11, zd⟩) := ⟨_, rfl⟩; rw [← hr] at K90; have HR := hid hr; clear hy hcy2 hr; obtain ⟨wk, hwk⟩ : ∃ wk, wk = ((wr.alloc (.cells (Dd.enc ⟨y1, y2, y3, y4, y5, y6, yp, yl, yc, ⟨y8, y9, y10⟩, y11, yd⟩).toArray 113)).alloc (.cells (Dd.enc ⟨z1, z2, z3, z4, z5, z6, zp, zl, zc, ⟨z8, z9, z10⟩, z11, zd⟩).toArray 113)).drew := ⟨_, rfl⟩
                have HBK : Hid (Below wo.heap.size wo wk) := by
                  rw [hwk]; exact HBR.out.trans ((below_draws ((below_alloc wr _).trans ((below_alloc _ _).mono (by simp))) 1).mono HBR.out.size)
                cases r with
                | true =>
                  go_upto_region 24 with (fail)
                  go_region_held (fun w' => w'.cell? ⟨g, j * 11, none⟩ = some (.int .i64 y1) ∧ w'.cell? ⟨g, j * 11 + 1, none⟩ = some (.string y2) ∧ w'.cell? ⟨g, j * 11 + 2, none⟩ = some (.int .i64 y3) ∧ w'.cell? ⟨g, j * 11 + 3, none⟩ = some (.string y4) ∧ w'.cell? ⟨g, j * 11 + 4, none⟩ = some (.int .i64 y5) ∧ w'.cell? ⟨g, j * 11 + 5, none⟩ = some (.bool y6) ∧ w'.cell? ⟨g, j * 11 + 6, none⟩ = some (.slice yp yl yc) ∧ w'.cell? ⟨g, j * 11 + 7, none⟩ = some (.int .i64 y8) ∧ w'.cell? ⟨g, j * 11 + 8, none⟩ = some (.int .i64 y9) ∧ w'.cell? ⟨g, j * 11 + 9, none⟩ = some (.int .i64 y10) ∧ w'.cell? ⟨g, j * 11 + 10, none⟩ = some (.int .i64 y11) ∧ w'.cell? ⟨bx, ox + s * 11, none⟩ = some (.int .i64 z1) ∧ w'.cell? ⟨bx, ox + s * 11 + 1, none⟩ = some (.string z2) ∧ w'.cell? ⟨bx, ox + s * 11 + 2, none⟩ = some (.int .i64 z3) ∧ w'.cell? ⟨bx, ox + s * 11 + 3, none⟩ = some (.string z4) ∧ w'.cell? ⟨bx, ox + s * 11 + 4, none⟩ = some (.int .i64 z5) ∧ w'.cell? ⟨bx, ox + s * 11 + 5, none⟩ = some (.bool z6) ∧ w'.cell? ⟨bx, ox + s * 11 + 6, none⟩ = some (.slice zp zl zc) ∧ w'.cell? ⟨bx, ox + s * 11 + 7, none⟩ = some (.int .i64 z8) ∧ w'.cell? ⟨bx, ox + s * 11 + 8, none⟩ = some (.int .i64 z9) ∧ w'.cell? ⟨bx, ox + s * 11 + 9, none⟩ = some (.int .i64 z10) ∧ w'.cell? ⟨bx, ox + s * 11 + 10, none⟩ = some (.int .i64 z11)) (go_keep) (first | (go_at_call 89; refine (K90 _).mono ?_; rintro e w' ⟨rfl, rfl⟩))
                  rw [← hwk]; clear hwk; go_wp2; refine ⟨⟨j + 1, by omega, by go_num, HBK.out, fun t ht => ?_⟩, by simp [intOf]; omega⟩; rcases Nat.lt_succ_iff_lt_or_eq.1 ht with h | rfl
                  · exact HLO.out t h
                  · rw [← HY.out]; exact HR.out.symm
                | false =>
                  have HHI : Hid (ltN ys[j]!.abs (Dd.abs ⟨z1, z2, z3, z4, z5, z6, zp, zl, zc, ⟨z8, z9, z10⟩, z11, zd⟩) = false) := by rw [← HY.out]; exact HR.out.symm
                  go_upto_region 24 with (fail)
                  go_region_held (fun w' => w'.cell? ⟨g, j * 11, none⟩ = some (.int .i64 y1) ∧ w'.cell? ⟨g, j * 11 + 1, none⟩ = some (.string y2) ∧ w'.cell? ⟨g, j * 11 + 2, none⟩ = some (.int .i64 y3) ∧ w'.cell? ⟨g, j * 11 + 3, none⟩ = some (.string y4) ∧ w'.cell? ⟨g, j * 11 + 4, none⟩ = some (.int .i64 y5) ∧ w'.cell? ⟨g, j * 11 + 5, none⟩ = some (.bool y6) ∧ w'.cell? ⟨g, j * 11 + 6, none⟩ = some (.slice yp yl yc) ∧ w'.cell? ⟨g, j * 11 + 7, none⟩ = some (.int .i64 y8) ∧ w'.cell? ⟨g, j * 11 + 8, none⟩ = some (.int .i64 y9) ∧ w'.cell? ⟨g, j * 11 + 9, none⟩ = some (.int .i64 y10) ∧ w'.cell? ⟨g, j * 11 + 10, none⟩ = some (.int .i64 y11) ∧ w'.cell? ⟨bx, ox + s * 11, none⟩ = some (.int .i64 z1) ∧ w'.cell? ⟨bx, ox + s * 11 + 1, none⟩ = some (.string z2) ∧ w'.cell? ⟨bx, ox + s * 11 + 2, none⟩ = some (.int .i64 z3) ∧ w'.cell? ⟨bx, ox + s * 11 + 3, none⟩ = some (.string z4) ∧ w'.cell? ⟨bx, ox + s * 11 + 4, none⟩ = some (.int .i64 z5) ∧ w'.cell? ⟨bx, ox + s * 11 + 5, none⟩ = some (.bool z6) ∧ w'.cell? ⟨bx, ox + s * 11 + 6, none⟩ = some (.slice zp zl zc) ∧ w'.cell? ⟨bx, ox + s * 11 + 7, none⟩ = some (.int .i64 z8) ∧ w'.cell? ⟨bx, ox + s * 11 + 8, none⟩ = some (.int .i64 z9) ∧ w'.cell? ⟨bx, ox + s * 11 + 9, none⟩ = some (.int .i64 z10) ∧ w'.cell? ⟨bx, ox + s * 11 + 10, none⟩ = some (.int .i64 z11)) (go_keep) (first | (go_at_call 89; refine (K90 _).mono ?_; rintro e w' ⟨rfl, rfl⟩))
                  rw [← hwk]; have HDK := hid (HDY.out.mono HBK.out (Nat.le_refl _)); have upk : ∀ {a : Addr} {v : Value}, w4.cell? a = some v → wk.cell? a = some v := fun {a v} h => by rw [(HBO.out.trans (HBK.out.mono HBO.out.size)).cell (lt_of_cell h)]; exact h
                  clear d0 e0 d1 e1 d2 e2 d3 e3 d4 e4 d5 e5 d6 e6 d7 e7 d8 e8 d9 e9 d10 e10 hwk; have d0 : wk.cell? ⟨bx, ox + s * 11, none⟩ = some (.int .i64 z1) := upk (HCC.out 0 _ rfl); have d1 : wk.cell? ⟨bx, ox + s * 11 + 1, none⟩ = some (.string z2) := upk (HCC.out 1 _ rfl); have d2 : wk.cell? ⟨bx, ox + s * 11 + 2, none⟩ = some (.int .i64 z3) := upk (HCC.out 2 _ rfl); have d3 : wk.cell? ⟨bx, ox + s * 11 + 3, none⟩ = some (.string z4) := upk (HCC.out 3 _ rfl); have d4 : wk.cell? ⟨bx, ox + s * 11 + 4, none⟩ = some (.int .i64 z5) := upk (HCC.out 4 _ rfl); have d5 : wk.cell? ⟨bx, ox + s * 11 + 5, none⟩ = some (.bool z6) := upk (HCC.out 5 _ rfl); have d6 : wk.cell? ⟨bx, ox + s * 11 + 6, none⟩ = some (.slice zp zl zc) := upk (HCC.out 6 _ rfl); have d7 : wk.cell? ⟨bx, ox + s * 11 + 7, none⟩ = some (.int .i64 z8) := upk (HCC.out 7 _ rfl)
                  have d8 : wk.cell? ⟨bx, ox + s * 11 + 8, none⟩ = some (.int .i64 z9) := upk (HCC.out 8 _ rfl); have d9 : wk.cell? ⟨bx, ox + s * 11 + 9, none⟩ = some (.int .i64 z10) := upk (HCC.out 9 _ rfl); have d10 : wk.cell? ⟨bx, ox + s * 11 + 10, none⟩ = some (.int .i64 z11) := upk (HCC.out 10 _ rfl); clear upk
                  go_upto_region 28 with (at_builtin; refine wpList_append_src rfl _ _ 110 rfl wk.heap.size 113 i0 _ 11 120 Tryz.underlying110 hi hz0 hz1 hz2 rfl (by decide) rfl _ j (((ys.drop 0).take j).flatMap Dd.enc) rfl ?hs1 (dns_one _) ?hm2 ?hm3 ?hm4 ?_; (case hs1 => exact src_dns' HDK.out 0 j _ _ _ (by have := HNY.out; omega) (by omega) rfl); (case hm2 => unfold maxLen; omega); (case hm3 => omega); (case hm4 => exact Nat.le_refl _); intro v3 w3 hown3 hgrow3; obtain ⟨a3, c3, rfl⟩ := row_shape hown3)
                  have h0 := hgrow3.cell d0 (by simp); have h1 := hgrow3.cell d1 (by simp); have h2 := hgrow3.cell d2 (by simp); have h3 := hgrow3.cell d3 (by simp); have h4 := hgrow3.cell d4 (by simp); have h5 := hgrow3.cell d5 (by simp); have h6 := hgrow3.cell d6 (by simp); have h7 := hgrow3.cell d7 (by simp); have h8 := hgrow3.cell d8 (by simp); have h9 := hgrow3.cell d9 (by simp); have h10 := hgrow3.cell d10 (by simp); clear d0 d1 d2 d3 d4 d5 d6 d7 d8 d9 d10
                  go_upto_region 29 with (at_builtin; refine wpList_append_own _ rfl _ _ 110 rfl wk.heap.size 113 i0 _ 11 120 Tryz.underlying110 hi hz0 hz1 hz2 rfl (by decide) _ _ _ rfl (hown3.alloc _) ⟨w3.heap.size, 0, none⟩ 1 1 [.int .i64 z1, .string z2, .int .i64 z3, .string z4, .int .i64 z5, .bool z6, .slice zp zl zc, .int .i64 z8, .int .i64 z9, .int .i64 z10, .int .i64 z11] rfl rfl (cells11_new _ _ _ _ rfl) ?ho1 ?ho2 ?ho3 ?ho4 ?_; (case ho1 => exact Dd.enc_one ⟨z1, z2, z3, z4, z5, z6, zp, zl, zc, ⟨z8, z9, z10⟩, z11, zd⟩); (case ho2 => unfold maxLen; omega); (case ho3 => omega); (case ho4 => have := hgrow3.size; simp; omega); intro v4 w5 hown4 hgrow4 _; obtain ⟨a4, c4, rfl⟩ := row_shape hown4)
                  have B3 : Below wk.heap.size wk w3 := (Below.refl wk.heap.size wk).grown hgrow3 (Nat.le_refl _) (fun j hj => by cases hj); have B4 : Below wk.heap.size wk w5 := (B3.alloc B3.size _).grown hgrow4 (by have := B3.size; simp; omega) (fun j hj => (hown3.lt j hj).1); have hs4 := B4.size; have HB4 := hid B4; have HD4 := hid (HDK.out.mono B4 (Nat.le_refl _)); clear hown3 hgrow3 hgrow4 B3 B4 h0 h1 h2 h3 h4 h5 h6 h7 h8 h9 h10
                  go_wp2_with (at_builtin; refine wpList_append_own_src rfl _ _ 110 rfl wk.heap.size 113 i0 _ 11 120 Tryz.underlying110 hi hz0 hz1 hz2 rfl (by decide) _ _ _ rfl hown4 _ (ny - j) (((ys.drop j).take (ny - j)).flatMap Dd.enc) rfl ?hs2 (dns_one _) ?hp2 ?hp3 ?hp4 ?_; (case hs2 => exact src_dns' HD4.out j (ny - j) _ _ _ (by have := HNY.out; omega) (by omega) (by omega)); (case hp2 => unfold maxLen; omega); (case hp3 => omega); (case hp4 => exact hs4); intro v5 w6 hown5 hgrow5)
                  refine ⟨⟨s + 1, by omega, by go_num, ?_⟩, by simp [intOf]; omega⟩; rw [HSU.out]; exact AllInv.insert (B := wk.heap.size) (j := j) (ny := ny) HYS.out HNY.out (by omega) HLO.out (.inr HHI.out) HGY.out HGZ.out hown5 (Nat.le_trans HBO.out.size HBK.out.size) ((HBO.out.trans (HBK.out.mono HBO.out.size)).trans ((HB4.out.grown hgrow5 HB4.out.size (fun j hj => (hown4.lt j hj).1)).mono (Nat.le_trans HBO.out.size HBK.out.size)))
              · obtain rfl : j = ny := by omega
                have hd : decide ((j : Int) < (j : Int)) = false := decide_eq_false (by omega); go_upto_region 24 with (fail)
                go_quiet (fail)
                obtain ⟨wk, hwk⟩ : ∃ wk, wk = wr.drewN nq := ⟨_, rfl⟩; rw [← hwk]; have HBK : Hid (Below wo.heap.size wo wk) := by rw [hwk]; exact below_draws HBR.out _
                have upk : ∀ {a : Addr} {v : Value}, wr.cell? a = some v → wk.cell? a = some v := fun {a v} h => by rw [hwk]; exact h
                replace d0 := upk d0; replace d1 := upk d1; replace d2 := upk d2; replace d3 := upk d3; replace d4 := upk d4; replace d5 := upk d5; replace d6 := upk d6; replace d7 := upk d7; replace d8 := upk d8; replace d9 := upk d9; replace d10 := upk d10; clear upk hwk; rcases HCS.out with ⟨rfl, rfl, rfl⟩ | ⟨g, rfl, hcy⟩
                · have hy0 : ys = [] := List.eq_nil_of_length_eq_zero HNY.out.symm; subst hy0
                  go_upto_region 28 with (at_builtin; refine wpList_append_src rfl _ _ 110 rfl wk.heap.size 113 i0 _ 11 120 Tryz.underlying110 hi hz0 hz1 hz2 rfl (by decide) rfl _ 0 [] rfl ?hs1 (fun u hu => by simp at hu) ?hm2 ?hm3 ?hm4 ?_; (case hs1 => exact .inl ⟨rfl, rfl, rfl⟩); (case hm2 => unfold maxLen; omega); (case hm3 => omega); (case hm4 => exact Nat.le_refl _); intro v3 w3 hown3 hgrow3; obtain ⟨a3, c3, rfl⟩ := row_shape hown3)
                  have h0 := hgrow3.cell d0 (by simp); have h1 := hgrow3.cell d1 (by simp); have h2 := hgrow3.cell d2 (by simp); have h3 := hgrow3.cell d3 (by simp); have h4 := hgrow3.cell d4 (by simp); have h5 := hgrow3.cell d5 (by simp); have h6 := hgrow3.cell d6 (by simp); have h7 := hgrow3.cell d7 (by simp); have h8 := hgrow3.cell d8 (by simp); have h9 := hgrow3.cell d9 (by simp); have h10 := hgrow3.cell d10 (by simp); clear d0 d1 d2 d3 d4 d5 d6 d7 d8 d9 d10
                  go_upto_region 29 with (at_builtin; refine wpList_append_own _ rfl _ _ 110 rfl wk.heap.size 113 i0 _ 11 120 Tryz.underlying110 hi hz0 hz1 hz2 rfl (by decide) _ _ _ rfl (hown3.alloc _) ⟨w3.heap.size, 0, none⟩ 1 1 [.int .i64 z1, .string z2, .int .i64 z3, .string z4, .int .i64 z5, .bool z6, .slice zp zl zc, .int .i64 z8, .int .i64 z9, .int .i64 z10, .int .i64 z11] rfl rfl (cells11_new _ _ _ _ rfl) ?ho1 ?ho2 ?ho3 ?ho4 ?_; (case ho1 => exact Dd.enc_one ⟨z1, z2, z3, z4, z5, z6, zp, zl, zc, ⟨z8, z9, z10⟩, z11, zd⟩); (case ho2 => unfold maxLen; omega); (case ho3 => omega); (case ho4 => have := hgrow3.size; simp; omega); intro v4 w5 hown4 hgrow4 _; obtain ⟨a4, c4, rfl⟩ := row_shape hown4)
                  have B3 : Below wk.heap.size wk w3 := (Below.refl wk.heap.size wk).grown hgrow3 (Nat.le_refl _) (fun j hj => by cases hj); have B4 : Below wk.heap.size wk w5 := (B3.alloc B3.size _).grown hgrow4 (by have := B3.size; simp; omega) (fun j hj => (hown3.lt j hj).1); have hs4 := B4.size; have HB4 := hid B4; clear hown3 hgrow3 hgrow4 B3 B4 h0 h1 h2 h3 h4 h5 h6 h7 h8 h9 h10
                  go_wp2_with (at_builtin; refine wpList_append_own_src rfl _ _ 110 rfl wk.heap.size 113 i0 _ 11 120 Tryz.underlying110 hi hz0 hz1 hz2 rfl (by decide) _ _ _ rfl hown4 _ 0 [] rfl ?hs2 (fun u hu => by simp at hu) ?hp2 ?hp3 ?hp4 ?_; (case hs2 => exact .inl ⟨rfl, rfl, rfl⟩); (case hp2 => unfold maxLen; omega); (case hp3 => omega); (case hp4 => exact hs4); intro v5 w6 hown5 hgrow5)
                  refine ⟨⟨s + 1, by omega, by go_num, ?_⟩, by simp [intOf]; omega⟩; rw [HSU.out]; exact AllInv.insert (B := wk.heap.size) (j := 0) (ny := 0) HYS.out HNY.out (by omega) HLO.out (.inl rfl) HGY.out HGZ.out hown5 (Nat.le_trans HBO.out.size HBK.out.size) ((HBO.out.trans (HBK.out.mono HBO.out.size)).trans ((HB4.out.grown hgrow5 HB4.out.size (fun j hj => (hown4.lt j hj).1)).mono (Nat.le_trans HBO.out.size HBK.out.size)))
                · have HDK := hid (HDY.out.mono HBK.out (Nat.le_refl _))
                  go_upto_region 28 with (at_builtin; refine wpList_append_src rfl _ _ 110 rfl wk.heap.size 113 i0 _ 11 120 Tryz.underlying110 hi hz0 hz1 hz2 rfl (by decide) rfl _ j (((ys.drop 0).take j).flatMap Dd.enc) rfl ?hs1 (dns_one _) ?hm2 ?hm3 ?hm4 ?_; (case hs1 => exact src_dns' HDK.out 0 j _ _ _ (by have := HNY.out; omega) (by omega) rfl); (case hm2 => unfold maxLen; omega); (case hm3 => omega); (case hm4 => exact Nat.le_refl _); intro v3 w3 hown3 hgrow3; obtain ⟨a3, c3, rfl⟩ := row_shape hown3)
                  have h0 := hgrow3.cell d0 (by simp); have h1 := hgrow3.cell d1 (by simp); have h2 := hgrow3.cell d2 (by simp); have h3 := hgrow3.cell d3 (by simp); have h4 := hgrow3.cell d4 (by simp); have h5 := hgrow3.cell d5 (by simp); have h6 := hgrow3.cell d6 (by simp); have h7 := hgrow3.cell d7 (by simp); have h8 := hgrow3.cell d8 (by simp); have h9 := hgrow3.cell d9 (by simp); have h10 := hgrow3.cell d10 (by simp); clear d0 d1 d2 d3 d4 d5 d6 d7 d8 d9 d10
                  go_upto_region 29 with (at_builtin; refine wpList_append_own _ rfl _ _ 110 rfl wk.heap.size 113 i0 _ 11 120 Tryz.underlying110 hi hz0 hz1 hz2 rfl (by decide) _ _ _ rfl (hown3.alloc _) ⟨w3.heap.size, 0, none⟩ 1 1 [.int .i64 z1, .string z2, .int .i64 z3, .string z4, .int .i64 z5, .bool z6, .slice zp zl zc, .int .i64 z8, .int .i64 z9, .int .i64 z10, .int .i64 z11] rfl rfl (cells11_new _ _ _ _ rfl) ?ho1 ?ho2 ?ho3 ?ho4 ?_; (case ho1 => exact Dd.enc_one ⟨z1, z2, z3, z4, z5, z6, zp, zl, zc, ⟨z8, z9, z10⟩, z11, zd⟩); (case ho2 => unfold maxLen; omega); (case ho3 => omega); (case ho4 => have := hgrow3.size; simp; omega); intro v4 w5 hown4 hgrow4 _; obtain ⟨a4, c4, rfl⟩ := row_shape hown4)
                  have B3 : Below wk.heap.size wk w3 := (Below.refl wk.heap.size wk).grown hgrow3 (Nat.le_refl _) (fun j hj => by cases hj); have B4 : Below wk.heap.size wk w5 := (B3.alloc B3.size _).grown hgrow4 (by have := B3.size; simp; omega) (fun j hj => (hown3.lt j hj).1); have hs4 := B4.size; have HB4 := hid B4; clear hown3 hgrow3 hgrow4 B3 B4 h0 h1 h2 h3 h4 h5 h6 h7 h8 h9 h10
                  go_wp2_with (at_builtin; refine wpList_append_own_src rfl _ _ 110 rfl wk.heap.size 113 i0 _ 11 120 Tryz.underlying110 hi hz0 hz1 hz2 rfl (by decide) _ _ _ rfl hown4 _ 0 [] rfl ?hs2 (fun u hu => by simp at hu) ?hp2 ?hp3 ?hp4 ?_; (case hs2 => exact src_ite); (case hp2 => unfold maxLen; omega); (case hp3 => omega); (case hp4 => exact hs4); intro v5 w6 hown5 hgrow5)
                  all_goals
                    refine ⟨⟨s + 1, by omega, by go_num, ?_⟩, by simp [intOf]; omega⟩; rw [HSU.out]; exact AllInv.insert (B := wk.heap.size) (j := j) (ny := j) HYS.out HNY.out (by omega) HLO.out (.inl rfl) HGY.out HGZ.out (by have h := hown5; rw [Nat.sub_self, List.take_zero]; exact h) (Nat.le_trans HBO.out.size HBK.out.size) ((HBO.out.trans (HBK.out.mono HBO.out.size)).trans ((HB4.out.grown hgrow5 HB4.out.size (fun j hj => (hown4.lt j hj).1)).mono (Nat.le_trans HBO.out.size HBK.out.size)))
          · have bt : (z2.toList == key.toList) = false := beq_eq_false_iff_ne.2 (ne_toList hkey); have bn : (z2.toList != key.toList) = true := by rw [bne, bt]; rfl
            have HSU := hid (HNO.out hkey); clear hkey up HYE HNO hc; go_wp2; refine ⟨⟨s + 1, by omega, by go_num, ?_⟩, by simp [intOf]; omega⟩; rw [HSU.out]; exact OI.out
        · obtain rfl : s = na := by omega
          have hO := OI.out; have hkt : keyTo key (onceA l) s = (onceA l).filter fun x => decide (x.o.key = key) := by unfold keyTo; rw [HACL.out, List.take_length]
          rw [hkt] at hO; obtain ⟨w6, hw6⟩ : ∃ w6 : World, w6 = wr := ⟨wr, rfl⟩; subst hw6; have hbo := hO.below; obtain ⟨ys, hrowy, hys, hgy⟩ := hO.row; have HDY := hid (dns_of_owns hrowy rfl (fun x hx => (hgy x hx).mono hbo (Nat.le_refl _))); have hopsr : opsR key l = ofKind (ys.map Dd.abs) := by rw [hys]; rfl
          have HOR := hid hopsr
          have hnya : ys.length ≤ s := by
            have e1 : ys.length = (sortR ((onceA l).filter fun x => decide (x.o.key = key))).length := by rw [← hys, List.length_map]
            rw [e1, sortR_len, HACL.out]; exact List.length_filter_le _ _
          obtain ⟨ay, cy, rfl⟩ := row_shape hrowy; obtain ⟨ny, hny⟩ : ∃ ny, ny = ys.length := ⟨_, rfl⟩; rw [← hny] at hnya HDY ⊢; have HNY := hid hny; have HB6 := hid (HBW.out.trans (hbo.mono HBW.out.size)); clear hO hkt hbo hrowy hys hgy hopsr hny OI; go_wp2
          go_loopw [16, 17] (fun v i wr => ∃ t : Nat, t ≤ ny ∧ i = .int .i64 t ∧ Hid (AllInv w6 wr v (kindTo (ys.map Dd.abs) t))) (fun _ i _ => ny - (intOf i).toNat)
          case atStart => exact ⟨0, Nat.zero_le _, rfl, AllInv.start w6⟩
          case round =>
            obtain ⟨t, ht, rfl, TI⟩ := hrel
            by_cases htl : t < ny
            · obtain ⟨b, off, rfl, hc⟩ := HDY.out.cell (k := t) (by have := HNY.out; omega); obtain ⟨b', off', heq, hc0⟩ := HDY.out.cell (k := 0) (by have := HNY.out; omega); injection heq with heq; injection heq with eg eo _; subst eg eo; have hgz := HDY.out.good ys[t]! (by rw [getElem!_pos ys t (by have := HNY.out; omega)]; exact List.getElem_mem _)
              have hget : ∀ t, t < ny → (ys.map Dd.abs)[t]! = ys[t]!.abs := fun t ht => by
                rw [getElem!_pos (ys.map Dd.abs) t (by have := HNY.out; simp; omega), List.getElem_map, getElem!_pos ys t (by have := HNY.out; omega)]
              have hks := kindTo_succ (ys := ys.map Dd.abs) (k := t) (by have := HNY.out; simp; omega); rw [hget t htl, hget 0 (by omega)] at hks; obtain ⟨z, hz⟩ : ∃ z, z = ys[t]! := ⟨_, rfl⟩; rw [← hz] at hc hgz hks; obtain ⟨k0, hk0⟩ : ∃ k0, k0 = ys[0]!.kind := ⟨_, rfl⟩; have hks' : kindTo (ys.map Dd.abs) (t + 1) = if z.kind = k0 then kindTo (ys.map Dd.abs) t ++ [z.abs] else kindTo (ys.map Dd.abs) t := by rw [hk0]; exact hks
              have e2 := hc0 2 _ rfl; have e2' : w6.cell? ⟨b, off + 2, none⟩ = some (.int .i64 k0) := by rw [hk0]; rwa [Nat.zero_mul, Nat.add_zero] at e2
              clear hks hz hget hk0 e2; obtain ⟨z1, z2, z3, z4, z5, z6, zp, zl, zc, ⟨z8, z9, z10⟩, z11, zd⟩ := z; have HKS := hid hks'; have HGZ := hid hgz; have hbt := TI.out.below; have up : ∀ {a : Addr} {v : Value}, w6.cell? a = some v → wr.cell? a = some v := fun {a v} h => by rw [hbt.cell (lt_of_cell h)]; exact h
              have m0 := up e2'; have d0 : wr.cell? ⟨b, off + t * 11, none⟩ = some (.int .i64 z1) := up (hc 0 _ rfl); have d1 : wr.cell? ⟨b, off + t * 11 + 1, none⟩ = some (.string z2) := up (hc 1 _ rfl); have d2 : wr.cell? ⟨b, off + t * 11 + 2, none⟩ = some (.int .i64 z3) := up (hc 2 _ rfl); have d3 : wr.cell? ⟨b, off + t * 11 + 3, none⟩ = some (.string z4) := up (hc 3 _ rfl); have d4 : wr.cell? ⟨b, off + t * 11 + 4, none⟩ = some (.int .i64 z5) := up (hc 4 _ rfl); have d5 : wr.cell? ⟨b, off + t * 11 + 5, none⟩ = some (.bool z6) := up (hc 5 _ rfl); have d6 : wr.cell? ⟨b, off + t * 11 + 6, none⟩ = some (.slice zp zl zc) := up (hc 6 _ rfl); have d7 : wr.cell? ⟨b, off + t * 11 + 7, none⟩ = some (.int .i64 z8) := up (hc 7 _ rfl); have d8 : wr.cell? ⟨b, off + t * 11 + 8, none⟩ = some (.int .i64 z9) := up (hc 8 _ rfl)
              have d9 : wr.cell? ⟨b, off + t * 11 + 9, none⟩ = some (.int .i64 z10) := up (hc 9 _ rfl); have d10 : wr.cell? ⟨b, off + t * 11 + 10, none⟩ = some (.int .i64 z11) := up (hc 10 _ rfl); obtain ⟨zs, hrow, habs, hgood⟩ := TI.out.row; obtain ⟨uz, cz, rfl⟩ := row_shape hrow
              have hzl : zs.length ≤ ny := by
                have e1 : zs.length = (kindTo (ys.map Dd.abs) t).length := by rw [← habs, List.length_map]
                have e2 := kindTo_len (ys.map Dd.abs) t; rw [e1]; have := HNY.out; simp at e2; omega
              obtain ⟨nz, hnz⟩ : ∃ nz, nz = zs.length := ⟨_, rfl⟩; rw [← hnz] at hzl hrow ⊢; have HNZ := hid hnz; have HAB2 := hid habs; have HGD2 := hid hgood; have HBT := hid hbt; have hst := hbt.size; have HROW := hid hrow; clear hc hc0 e2' up hgz hks' habs hgood hbt hnz
              by_cases hkk : z3 = k0
              · subst hkk; have HSU := hid (HKS.out.trans (if_pos rfl)); go_upto_region 34 with (fail)
                go_quiet (fail)
                obtain ⟨wy, hwy⟩ : ∃ wy, wy = wr.drewN nq := ⟨_, rfl⟩; rw [← hwy]; have hrow' : wy.ownsRow w6.heap.size 113 11 (.slice uz nz cz) nz (zs.flatMap Dd.enc) := by rw [hwy]; exact HROW.out
                have HBY : Hid (Below w6.heap.size w6 wy) := by rw [hwy]; exact below_draws HBT.out _
                have hsy : w6.heap.size ≤ wy.heap.size := HBY.out.size; have upy : ∀ {a : Addr} {v : Value}, wr.cell? a = some v → wy.cell? a = some v := fun {a v} h => by rw [hwy]; exact h
                replace d0 := upy d0; replace d1 := upy d1; replace d2 := upy d2; replace d3 := upy d3; replace d4 := upy d4; replace d5 := upy d5; replace d6 := upy d6; replace d7 := upy d7; replace d8 := upy d8; replace d9 := upy d9; replace d10 := upy d10; clear upy hwy hrow
                go_wp2_with (at_builtin; refine wpList_append_own _ rfl _ _ 110 rfl w6.heap.size 113 i0 _ 11 120 Tryz.underlying110 hi hz0 hz1 hz2 rfl (by decide) _ _ _ rfl (hrow'.alloc _) ⟨wy.heap.size, 0, none⟩ 1 1 [.int .i64 z1, .string z2, .int .i64 z3, .string z4, .int .i64 z5, .bool z6, .slice zp zl zc, .int .i64 z8, .int .i64 z9, .int .i64 z10, .int .i64 z11] rfl rfl (cells11_new _ _ _ _ rfl) ?ho1 ?ho2 ?ho3 ?ho4 ?_; (case ho1 => exact Dd.enc_one ⟨z1, z2, z3, z4, z5, z6, zp, zl, zc, ⟨z8, z9, z10⟩, z11, zd⟩); (case ho2 => unfold maxLen; omega); (case ho3 => omega); (case ho4 => simp; omega); intro v' w2 hown' hgrow2 hnil2)
                refine ⟨⟨t + 1, by omega, by go_num, ?_⟩, by simp [intOf]; omega⟩; rw [HSU.out]; exact AllInv.step (x := ⟨z1, z2, z3, z4, z5, z6, zp, zl, zc, ⟨z8, z9, z10⟩, z11, zd⟩) HGZ.out HBY.out (by rw [← HNZ.out]; exact hrow') HAB2.out HGD2.out hgrow2 (by rw [← HNZ.out]; exact hown')
              · have b3 : (z3 == k0) = false := beq_eq_false_iff_ne.2 hkk; have HSU := hid (HKS.out.trans (if_neg hkk)); clear hkk; go_upto_region 34 with (fail)
                go_quiet (fail)
                go_wp2; refine ⟨⟨t + 1, by omega, by go_num, ?_⟩, by simp [intOf]; omega⟩
                rw [HSU.out]; exact ⟨⟨zs, (by rw [← HNZ.out]; exact HROW.out), HAB2.out, HGD2.out⟩, below_draws HBT.out _⟩
            · obtain rfl : t = ny := by omega
              have hT := TI.out; have hbt := hT.below; obtain ⟨zs, hrow, habs, hgood⟩ := hT.row; have HDZ := hid (dns_of_owns hrow rfl (fun x hx => (hgood x hx).mono hbt (Nat.le_refl _))); obtain ⟨uz, cz, rfl⟩ := row_shape hrow
              have hfin : zs.map Dd.abs = opsR key l := by
                rw [habs, HOR.out, ← kindTo_all, List.length_map, ← HNY.out]
              have HFIN := hid hfin; have HBF := hid (HB6.out.trans (hbt.mono HB6.out.size)); clear hT hbt hrow habs hgood hfin TI; go_wp2; go_ret; exact ⟨_, zs, rfl, HDZ.out, HFIN.out, HBF.out⟩
end Go.Proofs.YtdnebclemngdcaaGreatDoor
