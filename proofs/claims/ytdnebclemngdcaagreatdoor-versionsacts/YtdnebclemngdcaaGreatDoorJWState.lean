/- Where a store of versions stands in memory; how an op more turns it. -/
import Derived.Test.YtdnebclemngdcaaGreatDoorJWPart2
import Derived.Test.YtdnebclemngdcaaGreatDoorJVOnceM
namespace Go.Proofs.YtdnebclemngdcaaGreatDoor
open Go.RowKit Go.Sort Go.Maps
set_option maxRecDepth 100000
set_option linter.unusedSectionVars false
variable [Inhabited ComV] [DecidableEq D3] [Inhabited D3] [Inhabited Dd] [Inhabited Dn] [Inhabited OpV]

def sliceElem : Value → Option (DataW Unit × List MemPlace)
  | .slice (some ⟨g, 0, none⟩) n c => some (.agg [.lit (.int .i64 g), .lit (.int .i64 n), .lit (.int .i64 c)], [])
  | .slice none 0 0 => some (.nil, [])
  | _ => none
def rowDat (v : Value) : DataW Unit := match sliceElem v with
  | some z => z.1
  | none => .nil
theorem sliceElem_inv {v : Value} {z : DataW Unit × List MemPlace} (h : sliceElem v = some z) : (v = .slice none 0 0 ∧ z = (.nil, [])) ∨ ∃ (g n c : Nat), v = .slice (some ⟨g, 0, none⟩) n c ∧ z = (.agg [.lit (.int .i64 g), .lit (.int .i64 n), .lit (.int .i64 c)], []) := by
  unfold sliceElem at h
  split at h
  · exact .inr ⟨_, _, _, rfl, (Option.some.inj h).symm⟩
  · exact .inl ⟨rfl, (Option.some.inj h).symm⟩
  · cases h
theorem sliceElem_inj {v v' : Value} {z z' : DataW Unit × List MemPlace} (h : sliceElem v = some z) (h' : sliceElem v' = some z') (e : z.1 = z'.1) : v = v' := by
  rcases sliceElem_inv h with ⟨rfl, rfl⟩ | ⟨g, n, c, rfl, rfl⟩
  · rcases sliceElem_inv h' with ⟨rfl, rfl⟩ | ⟨g', n', c', rfl, rfl⟩
    · rfl
    · cases e
  · rcases sliceElem_inv h' with ⟨rfl, rfl⟩ | ⟨g', n', c', rfl, rfl⟩
    · cases e
    · simp only [DataW.agg.injEq, List.cons.injEq, DataW.lit.injEq, Lit.int.injEq, true_and, and_true] at e; obtain ⟨e1, e2, e3⟩ := e; have e1' : g = g' := by omega
      have e2' : n = n' := by omega
      have e3' : c = c' := by omega
      subst e1' e2' e3'; rfl
theorem sliceElem_row {w : World} {base e size n : Nat} {v : Value} {xs : List Value} (h : w.ownsRow base e size v n xs) : sliceElem v = some (rowDat v, []) := by
  rcases h.2 with ⟨rfl, _⟩ | ⟨g, cap, cur, rfl, _⟩ <;> rfl
structure St where
  base : List Int
  parts : List ComV
  dots : List D3
def keyOfC (c : ComV) : ByteArray := c.ops[0]!.key
def rowOf (s : St) (k : ByteArray) : List ComV := s.parts.filter fun c => decide (keyOfC c = k)
abbrev klS (k : ByteArray) : Lit := .string k.data.toList
theorem klS_inj {a b : ByteArray} (h : klS a = klS b) : a = b := by
  injection h with h; exact WideShapes.bytes_inj h
theorem klS_key (k : ByteArray) : WideAt.IsKeyLit (klS k) := trivial
theorem keyed9 : Keyed Tryz.prog 9 := string_keyed Tryz.underlying9
structure VerAt (w : World) (p mb db : Nat) (f : ByteArray → Value) (s : St) (n : Nat) : Prop where
  box : ∃ bv, w.heap[p]? = some (.cells #[bv, .map (some mb), .map (some db)] 83 (0, 0)) ∧ IntsT w bv s.base
  dots : ∃ D : DataW Unit, w.ownsMap Tryz.prog 87 unitElem db n D ∧ ∀ d, wf3 d → Maps.has D (klD d) = decide (d ∈ s.dots)
  map : ∃ D : DataW Unit, w.ownsMap Tryz.prog 9 sliceElem mb n D ∧ ∀ k, Maps.has D (klS k) = decide (rowOf s k ≠ []) ∧ D.atKey (klS k) .nil = rowDat (f k)
  rows : ∀ k, ∃ rows, w.ownsRow 0 34 3 (f k) (rowOf s k).length rows.flatten ∧ F2 (ComT w) rows (rowOf s k)
  apart : ∀ k k', k ≠ k' → ∀ b, (f k).ownBlock = some b → (f k').ownBlock ≠ some b
  ne : mb ≠ db
theorem map_obj {w : World} {k b n : Nat} {R : Value → Option (DataW Unit × List MemPlace)} {D : DataW Unit} (h : w.ownsMap Tryz.prog k R b n D) : ∃ es clock, w.heap[b]? = some (.map es clock) := by
  obtain ⟨es, clock, hb, _⟩ := h; exact ⟨es, clock, hb⟩
theorem cells_ne_map {w : World} {k b n g : Nat} {R : Value → Option (DataW Unit × List MemPlace)} {D : DataW Unit} {cs : Array Value} {t : TypeId} (h : w.ownsMap Tryz.prog k R b n D) (hg : w.heap[g]? = some (.cells cs t (0, 0))) : g ≠ b := fun e => by
  obtain ⟨es, clock, hb⟩ := map_obj h; rw [e, hb] at hg; cases hg
theorem keep3_map {w w' : World} {k b n : Nat} {R : Value → Option (DataW Unit × List MemPlace)} {D : DataW Unit} (h : w.ownsMap Tryz.prog k R b n D) (hg : w.grownBy w' (some b)) : Keep3 w w' := by
  have : ∀ t, KeepT t w w' := fun t i cs hi => hg.block i (lt_of_heap hi) fun e => cells_ne_map h hi (Option.some.inj e)
  exact ⟨this 3, this 76, this 87⟩
theorem intsT_keep {w w' : World} {v : Value} {zs : List Int} (h : IntsT w v zs) (hk : Keep3 w w') : IntsT w' v zs := RowT.kept h hk.ints
theorem f2_keep {w w' : World} {rows : List (List Value)} {l : List ComV} (h : F2 (ComT w) rows l) (hk : Keep3 w w') : F2 (ComT w') rows l := f2_mono (fun _ _ x => x.kept hk) h
theorem VerAt.moved {w w' : World} {p mb db n : Nat} {f : ByteArray → Value} {s : St} (h : VerAt w p mb db f s n) (hb : Below w.heap.size w w') : VerAt w' p mb db f s n := by
  have hk : Keep3 w w' := Keep3.of_below hb (Nat.le_refl _); have hg : ∀ b, w.grownBy w' b := fun b => ⟨hb.os, hb.tape, hb.output, hb.size, fun i hi _ => hb.block i hi⟩
  refine ⟨?_, ?_, ?_, fun k => ?_, h.apart, h.ne⟩
  · obtain ⟨bv, h1, h2⟩ := h.box; exact ⟨bv, by rw [hb.block _ (lt_of_heap h1)]; exact h1, intsT_keep h2 hk⟩
  · obtain ⟨D, h1, h2⟩ := h.dots; exact ⟨D, h1.kept (hg none) (by simp), h2⟩
  · obtain ⟨D, h1, h2⟩ := h.map; exact ⟨D, h1.kept (hg none) (by simp), h2⟩
  · obtain ⟨rows, h1, h2⟩ := h.rows k; exact ⟨rows, owns_below h1 fun b _ hc => hb.block b (lt_of_heap hc), f2_keep h2 hk⟩
theorem VerAt.addDot {w w' : World} {p mb db n : Nat} {f : ByteArray → Value} {s : St} (h : VerAt w p mb db f s n) {D : DataW Unit} (h1 : w.ownsMap Tryz.prog 87 unitElem db n D) (h2 : ∀ d, wf3 d → Maps.has D (klD d) = decide (d ∈ s.dots)) {d : D3} (hd : wf3 d)
    (hg : w.grownBy w' (some db)) (hm : w'.ownsMap Tryz.prog 87 unitElem db (n + 1) (D.put (klD d) (.agg []))) : VerAt w' p mb db f ⟨s.base, s.parts, s.dots ++ [d]⟩ (n + 1) := by
  have hk : Keep3 w w' := keep3_map h1 hg; refine ⟨?_, ⟨_, hm, fun e he => ?_⟩, ?_, fun k => ?_, h.apart, h.ne⟩
  · obtain ⟨bv, e1, e2⟩ := h.box; exact ⟨bv, by rw [hg.block _ (lt_of_heap e1) (fun e => cells_ne_map h1 e1 (Option.some.inj e))]; exact e1, intsT_keep e2 hk⟩
  · by_cases e1 : d = e
    · subst e1; rw [has_put_same h1.isMap (klD_key _)]; simp
    · rw [has_put_other (fun x => e1 (klD_inj he hd x).symm), h2 e he]; simp only [decide_eq_decide, List.mem_append, List.mem_singleton]; exact ⟨.inl, fun x => x.resolve_right fun y => e1 y.symm⟩
  · obtain ⟨D', e1, e2⟩ := h.map; exact ⟨D', (e1.kept hg (fun e => h.ne (Option.some.inj e))).mono (Nat.le_succ _), e2⟩
  · obtain ⟨rows, e1, e2⟩ := h.rows k; refine ⟨rows, owns_below e1 fun b _ hc => hg.block b (lt_of_heap hc) fun e => cells_ne_map h1 hc (Option.some.inj e), f2_keep e2 hk⟩
def updF (f : ByteArray → Value) (k : ByteArray) (v : Value) : ByteArray → Value := fun k' => if k' = k then v else f k'
theorem rowOf_add (s : St) (c : ComV) (k : ByteArray) : rowOf ⟨s.base, s.parts ++ [c], s.dots⟩ k = if keyOfC c = k then rowOf s k ++ [c] else rowOf s k := by
  unfold rowOf; rw [List.filter_append]
  split
  · rename_i h; simp [h]
  · rename_i h; simp [h]
theorem VerAt.addPart {w w5 w6 : World} {p mb db n : Nat} {f : ByteArray → Value} {s : St} (h : VerAt w p mb db f s n) {D : DataW Unit} (hD : w.ownsMap Tryz.prog 9 sliceElem mb n D) (hs : ∀ k, Maps.has D (klS k) = decide (rowOf s k ≠ []) ∧ D.atKey (klS k) .nil = rowDat (f k))
    {c : ComV} {rows : List (List Value)} {r : List Value} {v' : Value} (hrow : w.ownsRow 0 34 3 (f (keyOfC c)) (rowOf s (keyOfC c)).length rows.flatten) (hF : F2 (ComT w) rows (rowOf s (keyOfC c))) (hc : ComT w r c)
    (hg5 : w.grownBy w5 (f (keyOfC c)).ownBlock) (hr5 : w5.ownsRow 0 34 3 v' ((rowOf s (keyOfC c)).length + 1) (rows.flatten ++ r)) (hloc : v'.ownBlock = (f (keyOfC c)).ownBlock ∨ v'.ownBlock = some w.heap.size)
    (hg6 : w5.grownBy w6 (some mb)) (hm6 : w6.ownsMap Tryz.prog 9 sliceElem mb (n + 1) (D.put (klS (keyOfC c)) (rowDat v'))) : VerAt w6 p mb db (updF f (keyOfC c) v') ⟨s.base, s.parts ++ [c], s.dots⟩ (n + 1) := by
  have hk5 : Keep3 w w5 := Keep3.grown hrow hg5
  have other : ∀ (b : Nat) (o : Obj), w.heap[b]? = some o → (∀ cs, o ≠ .cells cs 34 (0, 0)) → w5.heap[b]? = w.heap[b]? := fun b o hb ho => hg5.block b (by
    rcases Nat.lt_or_ge b w.heap.size with h' | h'
    · exact h'
    · rw [Array.getElem?_eq_none h'] at hb; cases hb) fun e => by
      obtain ⟨cs, hcs⟩ := own_type hrow e.symm; rw [hb] at hcs; exact ho cs (Option.some.inj hcs)
  have hD5 : w5.ownsMap Tryz.prog 9 sliceElem mb n D := by
    refine hD.kept hg5 fun e => ?_
    obtain ⟨cs, hcs⟩ := own_type hrow e.symm; exact cells_ne_map hD hcs rfl
  have hk6 : Keep3 w5 w6 := keep3_map hD5 hg6; have hk : Keep3 w w6 := hk5.trans hk6; have cells6 : ∀ (b : Nat) (cs : Array Value) (t : TypeId), w5.heap[b]? = some (.cells cs t (0, 0)) → w6.heap[b]? = w5.heap[b]? := fun b cs t hb => hg6.block b (lt_of_heap hb) fun e => cells_ne_map hD5 hb (Option.some.inj e)
  refine ⟨?_, ?_, ⟨_, hm6, fun k => ?_⟩, fun k => ?_, fun k k' hkk b hb => ?_, h.ne⟩
  · obtain ⟨bv, e1, e2⟩ := h.box; have e5 := other p _ e1 (fun cs e => by injection e with _ e; cases e); exact ⟨bv, by rw [cells6 p _ _ (e5.trans e1), e5]; exact e1, intsT_keep e2 hk⟩
  · obtain ⟨D', e1, e2⟩ := h.dots; refine ⟨D', ((e1.kept hg5 fun e => ?_).kept hg6 fun e => h.ne (Option.some.inj e).symm).mono (Nat.le_succ _), e2⟩; obtain ⟨cs, hcs⟩ := own_type hrow e.symm; exact cells_ne_map e1 hcs rfl
  · rw [rowOf_add]
    by_cases e : keyOfC c = k
    · subst e; rw [has_put_same hD.isMap (klS_key _), atKey_put_same hD.isMap (klS_key _), if_pos rfl]; unfold updF; rw [if_pos rfl]; exact ⟨by simp, rfl⟩
    · rw [has_put_other (fun x => e (klS_inj x).symm), atKey_put_other (fun x => e (klS_inj x).symm), if_neg e]; unfold updF; rw [if_neg (fun x => e x.symm)]; exact hs k
  · rw [rowOf_add]; unfold updF
    by_cases e : keyOfC c = k
    · subst e; rw [if_pos rfl, if_pos rfl]; refine ⟨rows ++ [r], ?_, f2_append (f2_keep hF hk) (hc.kept hk)⟩; have : w6.ownsRow 0 34 3 v' ((rowOf s (keyOfC c)).length + 1) (rows.flatten ++ r) := owns_below hr5 fun b cs hb => cells6 b cs _ hb
      simpa using this
    · rw [if_neg e, if_neg (fun x => e x.symm)]; obtain ⟨rs, e1, e2⟩ := h.rows k; refine ⟨rs, ?_, f2_keep e2 hk⟩
      have h5 : w5.ownsRow 0 34 3 (f k) (rowOf s k).length rs.flatten := e1.kept hg5 (by
        cases hb : (f k).ownBlock with
        | none => exact .inl rfl
        | some b => exact .inr fun x => h.apart k (keyOfC c) (fun y => e y.symm) b hb x.symm)
      exact owns_below h5 fun b cs hb => cells6 b cs _ hb
  · unfold updF at hb ⊢
    by_cases e : k = keyOfC c
    · rw [if_pos e] at hb; rw [if_neg (fun x => hkk (e.trans x.symm))]; intro hb'; rcases hloc with hl | hl
      · rw [hl] at hb; exact h.apart (keyOfC c) k' (fun x => hkk (e.trans x)) b hb hb'
      · rw [hl] at hb; obtain ⟨rs, e1, _⟩ := h.rows k'; have := (e1.lt b hb').2; have hb2 := Option.some.inj hb; omega
    · rw [if_neg e] at hb
      by_cases e' : k' = keyOfC c
      · rw [if_pos e']; intro hb'; rcases hloc with hl | hl
        · rw [hl] at hb'; exact h.apart k (keyOfC c) e b hb hb'
        · rw [hl] at hb'; obtain ⟨rs, e1, _⟩ := h.rows k; have := (e1.lt b hb).2; have hb2 := Option.some.inj hb'; omega
      · rw [if_neg e']; exact h.apart k k' hkk b hb
end Go.Proofs.YtdnebclemngdcaaGreatDoor
