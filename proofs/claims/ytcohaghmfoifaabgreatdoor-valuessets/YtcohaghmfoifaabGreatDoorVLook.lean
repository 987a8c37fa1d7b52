/- A look-up gives one value, however many draws on. -/
import Derived.Test.YtcohaghmfoifaabGreatDoorVStandM
namespace Go.Proofs.YtcohaghmfoifaabGreatDoor
open Go.RowKit Go.Maps Go.ChangeMaps
open Go.WideElems (Fit rd rg pl rd_val)

theorem entry_unique {l : List MapEntry} (h : l.Pairwise (fun x y => x.key ≠ y.key)) {a b : MapEntry} (ha : a ∈ l) (hb : b ∈ l) (hk : a.key = b.key) : a = b := by
  induction h with
  | nil => simp at ha
  | cons h1 _ ih =>
    rcases List.mem_cons.1 ha with rfl | ha'
    · rcases List.mem_cons.1 hb with rfl | hb'
      · rfl
      · exact absurd hk (h1 _ hb')
    · rcases List.mem_cons.1 hb with rfl | hb'
      · exact absurd hk.symm (h1 _ ha')
      · exact ih ha' hb'

theorem look_all {w : World} {b n : Nat} {D : DataW Unit} (h : w.ownsMap Tryz.prog 65 textElem b n D) {key : Value} {kl : Lit} (hkey : keyOf Tryz.prog 65 key = some kl) :
    ∃ x : Dd, (∀ q, (Instr.lookup 112 (.map (some b)) key false).run Tryz.prog (w.drewN q) = .ok (.agg x.enc.toArray) (w.drewN q)) ∧ D.atKey kl (.lit (.string [])) = .lit (.string x.text.data.toList) := by
  have hzd : textElem (.agg #[.int .i64 0, .string ByteArray.empty, .int .i64 0, .string ByteArray.empty, .int .i64 0, .bool false, .slice none 0 0, .int .i64 0, .int .i64 0, .int .i64 0, .int .i64 0]) = some (.lit (.string []), []) := rfl
  obtain ⟨es, clock, hb, F, _, rfl⟩ := h
  have hn : es.toList.Pairwise (fun x y => x.key ≠ y.key) := ((Go.MapKept.stamped_iff es clock).1 F.stamped).2.2
  have hq : ∀ q, (w.drewN q).heap[b]? = some (.map es clock) := fun q => hb
  rcases Maps.fit_look false keyed65 Tryz.underlying112 (zero85 _) hb F hkey with ⟨_, hno, hat⟩ | ⟨e0, y, hm, hk0, _, hRv, hat, _⟩
  · refine ⟨⟨0, ByteArray.empty, 0, ByteArray.empty, 0, false, none, 0, 0, ⟨0, 0, 0⟩, 0, []⟩, fun q => ?_, hat _⟩
    rcases Maps.fit_look false keyed65 Tryz.underlying112 (zero85 _) (hq q) F hkey with ⟨hrun, _, _⟩ | ⟨e1, _, hm1, hk1, _⟩
    · exact hrun
    · exact absurd hk1 (hno e1 hm1)
  · obtain ⟨x, hx, hy⟩ := textElem_inv hRv
    refine ⟨x, fun q => ?_, by rw [hat, hy]⟩
    rcases Maps.fit_look false keyed65 Tryz.underlying112 (zero85 _) (hq q) F hkey with ⟨_, hno, _⟩ | ⟨e1, _, hm1, hk1, hrun, _⟩
    · exact absurd hk0 (hno e0 hm)
    · have : e1 = e0 := entry_unique hn hm1 hm (hk1.trans hk0.symm)
      rw [this] at hrun
      rw [← hx]
      exact hrun
theorem look_text {w : World} {b n : Nat} {D : DataW Unit} {M : D3 → Option ByteArray} (h : w.ownsMap Tryz.prog 65 textElem b n D) (hM : MapIs D M) (d1 d2 d3 : Int) (hd : wf3 ⟨d1, d2, d3⟩) :
    ∃ x : Dd, (∀ q, (Instr.lookup 112 (.map (some b)) (.agg #[.int .i64 d1, .int .i64 d2, .int .i64 d3]) false).run Tryz.prog (w.drewN q) = .ok (.agg x.enc.toArray) (w.drewN q)) ∧ x.text = (M ⟨d1, d2, d3⟩).getD ByteArray.empty := by
  obtain ⟨x, h1, h2⟩ := look_all h (key_dot ⟨d1, d2, d3⟩ hd)
  refine ⟨x, h1, ?_⟩
  have := (hM _ hd).2
  rw [h2] at this
  exact text_inj this

/-- A look-up in a region that only reads. -/
theorem wpQuiet_lookup {ops : Array Oper} {C : World → Prop} {Q : Act → Prop} {rest : List Oper} {o : Oper} {a : Act} (hg : o.guard = none) (t : TypeId) (m x : Operand) (hop : o.op = .lookup t m x false) (mv xv v : Value) (hm : a.eval m = mv) (hx : a.eval x = xv)
    (h : ∀ w, C w → (Instr.lookup t mv xv false).run Tryz.prog w = .ok v w) (hk : wpQuiet Tryz.prog ops C Q rest (a.put o.dst v)) : wpQuiet Tryz.prog ops C Q (o :: rest) a := by
  refine wpQuiet_step fun K hK => ?_
  rw [if_pos (by simp [Region.wanted, hg])]
  refine ⟨v, fun w hw => ?_, hK _ hk⟩
  unfold Oper.quietAt execOp
  simp [hop, hm, hx, h w hw, Oper.quietUpon, Result.andThen]

/-- A field of a struct in a region that only reads. -/
theorem wpQuiet_field {ops : Array Oper} {C : World → Prop} {Q : Act → Prop} {rest : List Oper} {o : Oper} {a : Act} (hg : o.guard = none) (t : TypeId) (x : Operand) (f : Nat) (hop : o.op = .field t x f) (xv v : Value) (hx : a.eval x = xv)
    (h : ∀ w, (Instr.field t xv f).run Tryz.prog w = .ok v w) (hk : wpQuiet Tryz.prog ops C Q rest (a.put o.dst v)) : wpQuiet Tryz.prog ops C Q (o :: rest) a := by
  refine wpQuiet_step fun K hK => ?_
  rw [if_pos (by simp [Region.wanted, hg])]
  refine ⟨v, fun w _ => ?_, hK _ hk⟩
  unfold Oper.quietAt execOp
  simp [hop, hx, h w, Oper.quietUpon, Result.andThen]
theorem field85 (a1 : Int) (a2 : ByteArray) (a3 : Int) (a4 : ByteArray) (a5 : Int) (a6 : Bool) (p : Option Addr) (l c : Nat) (a8 a9 a10 a11 : Int) (w : World) : (Instr.field 85 (.agg #[.int .i64 a1, .string a2, .int .i64 a3, .string a4, .int .i64 a5, .bool a6, .slice p l c, .int .i64 a8, .int .i64 a9, .int .i64 a10, .int .i64 a11]) 0).run Tryz.prog w = .ok (.agg #[.int .i64 a1, .string a2, .int .i64 a3, .string a4, .int .i64 a5, .bool a6, .slice p l c]) w := by kernel_rfl
theorem field24 (a1 : Int) (a2 : ByteArray) (a3 : Int) (a4 : ByteArray) (a5 : Int) (a6 : Bool) (p : Option Addr) (l c : Nat) (w : World) : (Instr.field 24 (.agg #[.int .i64 a1, .string a2, .int .i64 a3, .string a4, .int .i64 a5, .bool a6, .slice p l c]) 3).run Tryz.prog w = .ok (.string a4) w := by kernel_rfl

/-- 'v, ok := m[d]' at the operation, the value written out. -/
theorem wpList_lookup_dd (w : World) {ops : Array Oper} {rest : List Oper} {o : Oper} {a : Act} {Q : Exit → Act → World → Prop} (hg : o.guard = none) (m x : Operand) (hop : o.op = Op.lookup 112 m x true) (b n : Nat) (D : DataW Unit)
    (hm : a.eval m = .map (some b)) (hown : w.ownsMap Tryz.prog 65 textElem b n D) (key : Value) (kl : Lit) (hx : a.eval x = key) (hkey : keyOf Tryz.prog 65 key = some kl)
    (hK : ∀ (y1 : Int) (y2 : ByteArray) (y3 : Int) (y4 : ByteArray) (y5 : Int) (y6 : Bool) (yp : Option Addr) (yl yc : Nat) (y8 y9 y10 y11 : Int), wpList Tryz.prog ops Q rest (a.put o.dst (.tuple #[.agg #[.int .i64 y1, .string y2, .int .i64 y3, .string y4, .int .i64 y5, .bool y6, .slice yp yl yc, .int .i64 y8, .int .i64 y9, .int .i64 y10, .int .i64 y11], .bool (Maps.has D kl)])) w) :
    wpList Tryz.prog ops Q (o :: rest) a w :=
  wpList_lookup_own_ok w hg m x 112 hop 65 85 keyed65 Tryz.underlying112 textElem (zero85 _) (.lit (.string [])) [] rfl b n D hm hown key kl hx hkey (fun v ps hv => by
    obtain ⟨⟨y1, y2, y3, y4, y5, y6, yp, yl, yc, ⟨y8, y9, y10⟩, y11, _⟩, rfl, _⟩ := textElem_inv hv
    exact hK y1 y2 y3 y4 y5 y6 yp yl yc y8 y9 y10 y11)
end Go.Proofs.YtcohaghmfoifaabGreatDoor
