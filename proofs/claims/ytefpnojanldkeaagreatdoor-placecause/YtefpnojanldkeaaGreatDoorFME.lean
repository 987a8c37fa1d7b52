/- A place that hears, in whatever order, one commit and one beat of other places; One commit of counters at a place, and one beat: what is sent. -/
import Derived.Test.YtefpnojanldkeaaGreatDoorFMC
namespace Go.Proofs.YtefpnojanldkeaaGreatDoor
open Go.RowKit Go.Maps
set_option maxRecDepth 10000
set_option linter.unusedSectionVars false
variable [Inhabited ComV] [DecidableEq D3] [Inhabited D3] [Inhabited Dd] [Inhabited Dn] [Inhabited OpV]

/-- Where the place stands: each line of a place that sends (J), and what is put. -/
structure RcI (n id k : Nat) (C : Nat → ComV) (J : Nat → Prop) (i : Nat) (h : PlH) (v : PlV) : Prop where
  vid : v.id = id
  vn : v.n = n
  vk : v.k = k
  ck : v.ck = 0
  ln : ∀ j s, v.line j s → J j → Lno j id (C j) k s (v.Y j s) ∨ Lyes (C j) k s (v.Y j s)
  no : ∀ j s, v.line j s → ¬ J j → (v.Y j s).rt = 0
  sn : ∀ j s, v.line j s → (v.Y j s).sq = 0 ∧ (v.Y j s).st = 0 ∧ (v.Y j s).ms = []
  st : ∃ D : List (Nat × Nat), D.Nodup ∧ D.length ≤ i ∧ (∀ p, p ∈ D ↔ v.line p.1 p.2 ∧ J p.1 ∧ qS (C p.1) k p.2 = 1 ∧ (v.Y p.1 p.2).rt = 1) ∧ v.st = stOf n (D.map (partP C k))
  nn : h.nn ≤ 48 * i
  x : ∀ j s, v.line j s → (h.X j s).n ≤ i
theorem qS_some {c : ComV} {k s : Nat} (h : qS c k s = 1) : partOps c.ops k s ≠ [] := fun e => by
  unfold qS at h
  rw [if_pos e] at h
  omega
theorem qS_one {c : ComV} {k s : Nat} (h : partOps c.ops k s ≠ []) : qS c k s = 1 := if_neg h
theorem RcI.upd {n id k : Nat} {C : Nat → ComV} {J : Nat → Prop} {i : Nat} {h h' : PlH} {v : PlV} (hI : RcI n id k C J i h v) {j s : Nat} (hJ : J j) {y' : LnV} (hy1 : y'.sq = (v.Y j s).sq) (hy2 : y'.st = (v.Y j s).st) (hy3 : y'.ms = (v.Y j s).ms) (hl : Lno j id (C j) k s y' ∨ Lyes (C j) k s y') {st' : St} {D' : List (Nat × Nat)} (hD : D'.Nodup) (hlen : D'.length ≤ i + 1) (hm : ∀ p, p ∈ D' ↔ v.line p.1 p.2 ∧ J p.1 ∧ qS (C p.1) k p.2 = 1 ∧ (updL v.Y j s y' p.1 p.2).rt = 1) (hst : st' = stOf n (D'.map (partP C k))) (hnn : h'.nn ≤ 48 * (i + 1)) (hX : ∀ j s, (h'.X j s).n ≤ (h.X j s).n + 1) : RcI n id k C J (i + 1) h' { v with Y := updL v.Y j s y', st := st' } := by
  refine ⟨hI.vid, hI.vn, hI.vk, hI.ck, fun j1 s1 q1 hJ1 => ?_, fun j1 s1 q1 hJ1 => ?_, fun j1 s1 q1 => ?_, ⟨D', hD, hlen, hm, hst⟩, hnn, fun j1 s1 q1 => ?_⟩
  · show Lno j1 id (C j1) k s1 (updL v.Y j s y' j1 s1) ∨ Lyes (C j1) k s1 (updL v.Y j s y' j1 s1)
    by_cases e : (j1, s1) = (j, s)
    · injection e with e1 e2
      subst e1 e2
      rw [updL_at]
      exact hl
    · rw [updL_ne _ _ e]
      exact hI.ln j1 s1 q1 hJ1
  · show (updL v.Y j s y' j1 s1).rt = 0
    rw [updL_ne _ _ fun e => by injection e with e1 _; rw [e1] at hJ1; exact hJ1 hJ]
    exact hI.no j1 s1 q1 hJ1
  · show (updL v.Y j s y' j1 s1).sq = 0 ∧ (updL v.Y j s y' j1 s1).st = 0 ∧ (updL v.Y j s y' j1 s1).ms = []
    by_cases e : (j1, s1) = (j, s)
    · injection e with e1 e2
      subst e1 e2
      rw [updL_at, hy1, hy2, hy3]
      exact hI.sn _ _ q1
    · rw [updL_ne _ _ e]
      exact hI.sn _ _ q1
  · have := hX j1 s1
    have := hI.x j1 s1 q1
    omega
theorem RcI.step {n id k : Nat} {C : Nat → ComV} {J : Nat → Prop} {i : Nat} {h h' : PlH} {v : PlV} (hI : RcI n id k C J i h v) (hnn : h'.nn ≤ h.nn) (hX : ∀ j s, (h'.X j s).n ≤ (h.X j s).n + 1) : RcI n id k C J (i + 1) h' { v with Y := v.Y, st := v.st } := by
  obtain ⟨D, h1, h2, h3, h4⟩ := hI.st
  refine ⟨hI.vid, hI.vn, hI.vk, hI.ck, hI.ln, hI.no, hI.sn, ⟨D, h1, by omega, h3, h4⟩, by have := hI.nn; omega, fun j1 s1 q1 => ?_⟩
  have := hX j1 s1
  have := hI.x j1 s1 q1
  omega
theorem RcI.kept {n id k : Nat} {C : Nat → ComV} {J : Nat → Prop} {i : Nat} {h : PlH} {v : PlV} (hI : RcI n id k C J i h v) (hC : ∀ j, J j → SrcOk n C j) (n1 : 1 ≤ n) (n6 : n ≤ 6) : ∃ D : List (Nat × Nat), KeptL n (D.map (partP C k)) ∧ D.length ≤ i ∧ StOk v.st n ∧ v.st = stOf n (D.map (partP C k)) ∧ D.Nodup ∧ ∀ p, p ∈ D ↔ v.line p.1 p.2 ∧ J p.1 ∧ qS (C p.1) k p.2 = 1 ∧ (v.Y p.1 p.2).rt = 1 := by
  obtain ⟨D, h1, h2, h3, h4⟩ := hI.st
  have hK : KeptL n (D.map (partP C k)) := kept_parts D h1 (fun p hp => hC _ ((h3 p).1 hp).2.1) fun p hp => qS_some ((h3 p).1 hp).2.2.1
  refine ⟨D, hK, h2, ?_, h4, h1, h3⟩
  rw [h4]
  refine stOf_ok hK n1 n6 fun c hc => ?_
  obtain ⟨p, hp, rfl⟩ := List.mem_map.1 hc
  exact small_part (hC _ ((h3 p).1 hp).2.1).small k p.2
/-- A step of hearing: what is handed back, and where it stands then. -/
def HearStep (n id k : Nat) (C : Nat → ComV) (J : Nat → Prop) (i j s : Nat) (m : MsgV) (w : World) (h : PlH) (v : PlV) (e : Ending) (w' : World) : Prop :=
  ∃ (h' : PlH) (v' : PlV) (a6 : Option Addr) (c6 : Nat), e = .returned (.tuple #[.slice a6 1 c6, .nilIface]) ∧ PlAt w' h' v' ∧ PlMoves w w' h v h' v' ∧ h'.pb = h.pb ∧ RcI n id k C J (i + 1) h' v' ∧ (∀ j' s', (v.Y j' s').rt = 1 → (v'.Y j' s').rt = 1) ∧ (m.beat = false ∨ qS (C j) k s = 0 → (v'.Y j s).rt = 1)
theorem msgIn_c {v : PlV} {c : ComV} {k j s : Nat} (hL : Light c) : MsgIn v j s (cmM j v.id c k s) := ⟨rfl, rfl, rfl, by show (1 : Int) ≤ 1; decide, by show (1 : Int) ≤ 1000000; decide, by show (0 : Int) ≤ 1; decide, by show (1 : Int) ≤ 1000000; decide, light_part hL k s⟩
theorem msgIn_b {v : PlV} {c : ComV} {k j s : Nat} : MsgIn v j s (bmM j v.id c k s) := ⟨rfl, rfl, rfl, by show (1 : Int) ≤ (qS c k s : Nat) + 1; omega, by show ((qS c k s : Nat) : Int) + 1 ≤ 1000000; have := qS_le c k s; omega, by show (0 : Int) ≤ 1; decide, by show (1 : Int) ≤ 1000000; decide, light_nil 0⟩
theorem hear_step (A : Nat → Addr) (w : World) (hE : E4 A w) (h12 : 12 ≤ w.heap.size) (h : PlH) (v : PlV) (a : PlAt w h v) (hlow : ∀ b, h.foot v b → 12 ≤ b) {n id k : Nat} {C : Nat → ComV} {J : Nat → Prop} {i : Nat} (hI : RcI n id k C J i h v) (hi : i < 70) (hC : ∀ j, J j → SrcOk n C j) (j s : Nat) (q : v.line j s) (hJ : J j) (r : Raw) (m : MsgV) (hr : RawOwn 0 w r m) (hm : (qS (C j) k s = 1 ∧ m = cmM j id (C j) k s) ∨ m = bmM j id (C j) k s) :
    Calls Tryz.prog 11 #[.pointer (some ⟨h.pb, 0, none⟩), .agg r.cells.toArray] w (HearStep n id k C J i j s m w h v) := by
  have n1 : 1 ≤ n := by have := a.idn; have := hI.vn; omega
  have n6 : n ≤ 6 := by have := a.n6; have := hI.vn; omega
  obtain ⟨D, hK, hlen, hSt, hst, hD, hmem⟩ := hI.kept hC n1 n6
  have eid := hI.vid
  have ek := hI.vk
  have hnn := hI.nn
  have hx := hI.x j s q
  have hln := hI.ln j s q hJ
  have hrq : 0 ≤ (v.Y j s).rq ∧ (v.Y j s).rq ≤ 1000 := by
    have := qS_le (C j) k s
    rcases hln with e | e
    · rw [e.rq]; decide
    · rcases e.rq with ⟨e, _⟩ | e <;> omega
  have known : Known (v.Y j s) m → MsgIn v j s m → (m.beat = false ∨ qS (C j) k s = 0 → (v.Y j s).rt = 1) → Calls Tryz.prog 11 #[.pointer (some ⟨h.pb, 0, none⟩), .agg r.cells.toArray] w (HearStep n id k C J i j s m w h v) := fun hk hmi hrt => by
    refine (hear_known_any w h v a j s q r m hr hmi hk).mono ?_
    rintro e w' ⟨⟨h', a6, c6, he, hP, hM, hpb, hn', hX⟩⟩
    exact ⟨h', _, a6, c6, he, hP, hM, hpb, hI.step hn' hX, fun _ _ e => e, hrt⟩
  have stin : ∀ (D' : List (Nat × Nat)) (t : Nat), D'.length ≤ i + 1 → KeptL n (D'.map (partP C k)) → t ≤ 2 → StIn (stOf n (D'.map (partP C k))) (h.nn + 24 * t) := fun D' t hl hK' ht =>
    ⟨chk_zeros n1 n6, fun kk => by have := rowOf_few hK' (by rw [List.length_map]; omega) kk; omega, by omega⟩
  have fresh : ∀ cl, Fresh (v.Y j s) m cl → MsgIn v j s m → cl.length ≤ 2 → ∀ (D' : List (Nat × Nat)), D'.Nodup → D'.length ≤ i + 1 → KeptL n (D'.map (partP C k)) → cl.foldl takeV v.st = stOf n (D'.map (partP C k)) → (∀ t x, cl[t]? = some x → CanTake ((cl.take t).foldl takeV v.st) x) → (∀ t, t ≤ cl.length → (cl.take t).foldl takeV v.st = v.st ∨ (cl.take t).foldl takeV v.st = stOf n (D'.map (partP C k))) → (Lno j id (C j) k s (hearY (v.Y j s) m cl) ∨ Lyes (C j) k s (hearY (v.Y j s) m cl)) → (∀ p, p ∈ D' ↔ v.line p.1 p.2 ∧ J p.1 ∧ qS (C p.1) k p.2 = 1 ∧ (updL v.Y j s (hearY (v.Y j s) m cl) p.1 p.2).rt = 1) → ((v.Y j s).rt = 1 → (hearY (v.Y j s) m cl).rt = 1) → (m.beat = false ∨ qS (C j) k s = 0 → (hearY (v.Y j s) m cl).rt = 1) → Calls Tryz.prog 11 #[.pointer (some ⟨h.pb, 0, none⟩), .agg r.cells.toArray] w (HearStep n id k C J i j s m w h v) := fun cl hf hmi hcl D' hD' hl' hK' hfold htake hsts hy hm' hmo hrt => by
    refine (hear_new_any A w hE h12 h v a hlow j s q r m hr hmi hrq.1 hrq.2 (by omega) hf.no hf.lt hf.near cl hf.in_ htake fun t ht => ?_).mono ?_
    · rcases hsts t ht with e | e
      · rw [e, hst]
        exact stin D t (by omega) hK (by omega)
      · rw [e]
        exact stin D' t hl' hK' (by omega)
    · rintro e w' ⟨⟨h', a6, c6, he, hP, hM, hpb, hn', hX⟩⟩
      refine ⟨h', _, a6, c6, he, hP, hM, hpb, hI.upd (j := j) (s := s) (y' := hearY (v.Y j s) m cl) hJ rfl rfl rfl hy hD' hl' hm' hfold (by omega) hX, fun j' s' e0 => ?_, fun e0 => ?_⟩
      · show (updL v.Y j s _ j' s').rt = 1
        by_cases e : (j', s') = (j, s)
        · injection e with e1 e2
          subst e1 e2
          rw [updL_at]
          exact hmo e0
        · rw [updL_ne _ _ e]
          exact e0
      · show (updL v.Y j s _ j s).rt = 1
        rw [updL_at]
        exact hrt e0
  have beat : ∀ t x, [bmM j id (C j) k s][t]? = some x → CanTake (([bmM j id (C j) k s].take t).foldl takeV v.st) x := fun t x hx' => by
    have hx'' := List.mem_of_getElem? hx'
    simp at hx''
    rw [hx'']
    exact .inl rfl
  have same : ∀ y' : LnV, ((v.Y j s).rt = 1 ↔ y'.rt = 1) ∨ qS (C j) k s ≠ 1 → ∀ p, p ∈ D ↔ v.line p.1 p.2 ∧ J p.1 ∧ qS (C p.1) k p.2 = 1 ∧ (updL v.Y j s y' p.1 p.2).rt = 1 := fun y' hy p => by
    rw [hmem p]
    by_cases e : p = (j, s)
    · subst e
      show _ ∧ _ ∧ _ ∧ (v.Y j s).rt = 1 ↔ _ ∧ _ ∧ _ ∧ (updL v.Y j s y' j s).rt = 1
      rw [updL_at]
      rcases hy with hy | hy
      · rw [hy]
      · exact ⟨fun e => absurd e.2.2.1 hy, fun e => absurd e.2.2.1 hy⟩
    · rw [updL_ne _ _ (show (p.1, p.2) ≠ (j, s) from e)]
  subst eid
  rcases hm with ⟨hq, rfl⟩ | rfl
  · rcases hln with hl | hl
    · obtain ⟨cl, hf, hcl, hy⟩ := hear_c_no hl hq
      have hnot : (j, s) ∉ D := fun e => by
        have := ((hmem _).1 e).2.2.2
        have e0 : (v.Y j s).rt = 0 := hl.rt
        rw [show (v.Y (j, s).1 (j, s).2).rt = (v.Y j s).rt from rfl] at this
        omega
      have hD' : (D ++ [(j, s)]).Nodup := by
        rw [List.nodup_append]
        exact ⟨hD, by simp, fun x hx' y hy' e => by simp at hy'; subst hy'; subst e; exact hnot hx'⟩
      have hC' : ∀ t ∈ D ++ [(j, s)], SrcOk n C t.1 := fun t ht => by
        rcases List.mem_append.1 ht with ht | ht
        · exact hC _ ((hmem _).1 ht).2.1
        · obtain rfl := List.mem_singleton.1 ht
          exact hC _ hJ
      have hn' : ∀ t ∈ D ++ [(j, s)], partOps (C t.1).ops k t.2 ≠ [] := fun t ht => by
        rcases List.mem_append.1 ht with ht | ht
        · exact qS_some ((hmem _).1 ht).2.2.1
        · obtain rfl := List.mem_singleton.1 ht
          exact qS_some hq
      have hK' := kept_parts (D ++ [(j, s)]) hD' hC' hn'
      have hput := put_part hD' hC' hn'
      have e1 : takeV v.st (cmM j v.id (C j) k s) = stOf n ((D ++ [(j, s)]).map (partP C k)) := by
        show putTo v.st (partV (C j) k s) (partV (C j) k s).ops.length = _
        rw [hst, stOf_put, List.map_append]
        rfl
      have e2 : ∀ st, takeV st (bmM j v.id (C j) k s) = st := fun st => rfl
      have c1 : CanTake v.st (cmM j v.id (C j) k s) := by
        refine .inr ⟨rfl, (hC j hJ).place, ?_, light_part (hC j hJ).light k s⟩
        rw [hst]
        exact hput
      have hm' : ∀ p, p ∈ D ++ [(j, s)] ↔ v.line p.1 p.2 ∧ J p.1 ∧ qS (C p.1) k p.2 = 1 ∧ (updL v.Y j s (hearY (v.Y j s) (cmM j v.id (C j) k s) cl) p.1 p.2).rt = 1 := fun p => by
        rw [List.mem_append, List.mem_singleton]
        by_cases e : p = (j, s)
        · subst e
          refine ⟨fun _ => ⟨q, hJ, hq, ?_⟩, fun _ => .inr rfl⟩
          show (updL v.Y j s _ j s).rt = 1
          rw [updL_at]
          exact hy.rt
        · rw [updL_ne _ _ (show (p.1, p.2) ≠ (j, s) from e), hmem p]
          exact ⟨fun e' => e'.resolve_right e, .inl⟩
      have hl' : (D ++ [(j, s)]).length ≤ i + 1 := by rw [List.length_append]; show D.length + 1 ≤ i + 1; omega
      rcases hcl with rfl | rfl
      · refine fresh _ hf (msgIn_c (hC j hJ).light) (by show 1 ≤ 2; decide) _ hD' hl' hK' e1 (fun t x hx' => ?_) (fun t ht => ?_) (.inr hy) hm' (fun _ => hy.rt) (fun _ => hy.rt)
        · match t, hx' with
          | 0, hx' =>
            obtain rfl : cmM j v.id (C j) k s = x := by simpa using hx'
            exact c1
          | t + 1, hx' => simp at hx'
        · match t, ht with
          | 0, _ => exact .inl rfl
          | t + 1, ht =>
            refine .inr ?_
            show (List.take t []).foldl takeV (takeV v.st _) = _
            rw [List.take_nil]
            exact e1
      · refine fresh _ hf (msgIn_c (hC j hJ).light) (by show 2 ≤ 2; decide) _ hD' hl' hK' e1 (fun t x hx' => ?_) (fun t ht => ?_) (.inr hy) hm' (fun _ => hy.rt) (fun _ => hy.rt)
        · match t, hx' with
          | 0, hx' =>
            obtain rfl : cmM j v.id (C j) k s = x := by simpa using hx'
            exact c1
          | 1, hx' =>
            obtain rfl : bmM j v.id (C j) k s = x := by simpa using hx'
            exact .inl rfl
          | t + 2, hx' => simp at hx'
        · match t, ht with
          | 0, _ => exact .inl rfl
          | 1, _ => exact .inr e1
          | t + 2, ht =>
            refine .inr ?_
            show (List.take t []).foldl takeV (takeV (takeV v.st _) _) = _
            rw [List.take_nil]
            exact e1
    · exact known (hear_c_yes hl hq) (msgIn_c (hC j hJ).light) fun _ => hl.rt
  · have one : ∀ t, t ≤ [bmM j v.id (C j) k s].length → ([bmM j v.id (C j) k s].take t).foldl takeV v.st = v.st := fun t _ => by
      match t with
      | 0 => rfl
      | t + 1 =>
        show (List.take t []).foldl takeV (takeV v.st _) = _
        rw [List.take_nil]
        rfl
    rcases hln with hl | hl
    · rcases hear_b_no hl with hk | ⟨hq, hf, hy⟩ | ⟨hq, hf, hy⟩
      · refine known hk msgIn_b fun e => ?_
        have hq0 : qS (C j) k s = 0 := e.resolve_left (by show ¬ true = false; decide)
        exfalso
        have sb : (bmM j v.id (C j) k s).seq = 1 := by show ((qS (C j) k s : Nat) : Int) + 1 = 1; omega
        rcases hk with hk | hk
        · rcases hl.mm with hm | ⟨hm, _⟩
          · exact hk (hm _)
          · omega
        · rw [sb, hl.rq] at hk
          omega
      · exact fresh [] hf msgIn_b (by decide) D hD (by omega) hK hst (fun t x hx' => by simp at hx') (fun t _ => .inl (by rw [List.take_nil]; rfl)) (.inl hy) (same _ (.inl (by rw [hl.rt, hy.rt]))) (fun e => by rw [hl.rt] at e; omega) (fun e => by have := e.resolve_left (by show ¬ true = false; decide); omega)
      · exact fresh _ hf msgIn_b (by show 1 ≤ 2; decide) D hD (by omega) hK hst beat (fun t ht => .inl (one t ht)) (.inr hy) (same _ (.inr (by omega))) (fun _ => hy.rt) (fun _ => hy.rt)
    · rcases hear_b_yes (f := j) (t := v.id) hl with hk | ⟨hq, hf, hy⟩
      · exact known hk msgIn_b fun _ => hl.rt
      · exact fresh _ hf msgIn_b (by show 1 ≤ 2; decide) D hD (by omega) hK hst beat (fun t ht => .inl (one t ht)) (.inr hy) (same _ (.inl (by rw [hl.rt, hy.rt]))) (fun _ => hy.rt) (fun _ => hy.rt)
/-- The place as it is made has heard nothing. -/
theorem rcI0 {n id k : Nat} (C : Nat → ComV) (J : Nat → Prop) (h : PlH) (hnn : h.nn = 0) (hx : ∀ j s, (pv0 id n k).line j s → (h.X j s).n = 0) : RcI n id k C J 0 h (pv0 id n k) :=
  ⟨rfl, rfl, rfl, rfl, fun j s _ _ => .inl (lno0 j id (C j) k s), fun _ _ _ _ => rfl, fun _ _ _ => ⟨rfl, rfl, rfl⟩, ⟨[], by simp, Nat.le_refl _, fun p => ⟨fun h => by simp at h, fun h => absurd h.2.2.2 (by show ¬ (0 : Int) = 1; decide)⟩, by simp [stOf, pv0]⟩, by omega, fun j s q => by rw [hx j s q]; exact Nat.le_refl _⟩
/-- What is told of the times by place. -/
theorem RcI.snap {n id k : Nat} {C : Nat → ComV} {J : Nat → Prop} {i : Nat} {h : PlH} {v : PlV} (hI : RcI n id k C J i h v) (k1 : 1 ≤ k) (j : Nat) (hj : j < n) (hne : j ≠ id) : (snapJ v j = 0) ∨ (snapJ v j = 1 ∧ J j ∧ ∀ s, s < k → (v.Y j s).rt = 1) := by
  have e : snapJ v j = leastT (fun s => (v.Y j s).rt) v.k := if_neg (by rw [hI.vid]; exact hne)
  have hl : ∀ s, s < k → v.line j s := fun s hs => ⟨by rw [hI.vn]; exact hj, by rw [hI.vid]; exact hne, by rw [hI.vk]; exact hs⟩
  rw [e, hI.vk]
  by_cases hJ : J j
  · have h01 : ∀ s, s < k → (v.Y j s).rt = 0 ∨ (v.Y j s).rt = 1 := fun s hs => (hI.ln j s (hl s hs) hJ).imp (·.rt) (·.rt)
    by_cases ha : ∀ s, s < k → (v.Y j s).rt = 1
    · exact .inr ⟨least_all k1 ha, hJ, ha⟩
    · have : ∃ s, s < k ∧ (v.Y j s).rt = 0 := Classical.byContradiction fun hno => ha fun s hs => (h01 s hs).resolve_left fun e0 => hno ⟨s, hs, e0⟩
      obtain ⟨s, hs, h0⟩ := this
      exact .inl (least_none (rt := fun s => (v.Y j s).rt) h01 hs h0)
  · exact .inl (least_none (rt := fun s => (v.Y j s).rt) (k := k) (s := 0) (fun s hs => .inl (hI.no j s (hl s hs) hJ)) (by omega) (hI.no j 0 (hl 0 (by omega)) hJ))
end Go.Proofs.YtefpnojanldkeaaGreatDoor
namespace Go.Proofs.YtefpnojanldkeaaGreatDoor
open Go.RowKit Go.Maps
set_option maxRecDepth 10000
set_option linter.unusedSectionVars false
variable [Inhabited ComV] [DecidableEq D3] [Inhabited D3] [Inhabited Dd] [Inhabited Dn] [Inhabited OpV]

/-- One is added at the key. -/
def cOp (key : ByteArray) : OpV := ⟨0, key, 2, ByteArray.empty, 1, false, []⟩
def cOps (ks : List ByteArray) : List OpV := ks.map cOp
theorem cOps_mem {ks : List ByteArray} {o : OpV} (h : o ∈ opsIdx (cOps ks)) : o.key ∈ ks ∧ o.kind = 2 ∧ o.n = 1 ∧ o.text = ByteArray.empty ∧ o.rem = false ∧ o.dots = [] ∧ 0 ≤ o.at_ ∧ o.at_ < ks.length := by
  obtain ⟨i, hi, rfl⟩ := List.getElem_of_mem h
  have e := opsIdx_get (cOps ks) i
  rw [List.getElem?_eq_getElem hi] at e
  have hi' : i < ks.length := by rw [opsIdx_len] at hi; simpa [cOps] using hi
  rw [show (cOps ks)[i]? = some (cOp ks[i]) by simp [cOps, hi']] at e
  simp only [Option.map_some] at e
  injection e with e
  rw [e]
  exact ⟨List.getElem_mem _, rfl, rfl, rfl, rfl, rfl, by show (0 : Int) ≤ (i : Nat); omega, by show ((i : Nat) : Int) < (ks.length : Nat); omega⟩
theorem cOps_has {ks : List ByteArray} {key : ByteArray} (h : key ∈ ks) : ∃ o ∈ opsIdx (cOps ks), o.key = key := by
  obtain ⟨i, hi, rfl⟩ := List.getElem_of_mem h
  have e := opsIdx_get (cOps ks) i
  rw [show (cOps ks)[i]? = some (cOp ks[i]) by simp [cOps, hi]] at e
  exact ⟨_, List.mem_of_getElem? e, rfl⟩
theorem cOp_err {o : OpV} {n : Int} (h1 : 1 ≤ n) (h6 : n ≤ 6) (hk : nameB o.key = true) (h2 : o.kind = 2) (hn : o.n = 1) (ht : o.text = ByteArray.empty) (hr : o.rem = false) (hd : o.dots = []) (ha : 0 ≤ o.at_) (hb : o.at_ < 12) : opErr o n = 0 := by
  unfold opErr
  rw [if_neg (by omega), if_neg (by rw [hk]; decide), if_neg (by rw [h2]; decide), if_neg (by unfold foreignB; rw [h2, ht, hr, hd, hn]; decide), if_neg (by rw [ht, hn, hd]; decide), if_neg (by rw [hd]; simp)]
theorem set_len (at_ : List Int) (p : Nat) (t : Int) : (at_.set p t).length = at_.length := List.length_set
theorem getD_set {at_ : List Int} {p : Nat} (h : p < at_.length) (t : Int) (j : Nat) : (at_.set p t).getD j 0 = if j = p then t else at_.getD j 0 := by
  rw [List.getD_eq_getElem?_getD, List.getElem?_set, List.getD_eq_getElem?_getD]
  by_cases e : p = j
  · subst e
    rw [if_pos rfl, if_pos h, if_pos rfl]
    rfl
  · rw [if_neg e, if_neg (Ne.symm e)]
/-- The commit is one in which nothing is wrong. -/
theorem cCom_ok {at_ : List Int} {id n : Nat} {ks : List ByteArray} (hl : at_.length = n) (hid : id < n) (n6 : n ≤ 6) (ha : ∀ j, j < n → at_.getD j 0 = 0 ∨ at_.getD j 0 = 1) (hks : ks ≠ []) (h12 : ks.length ≤ 12) (hn : ∀ key ∈ ks, nameB key = true) : SrcOk n (fun _ => comN at_ id 1 (cOps ks)) id := by
  have hlen : (opsIdx (cOps ks)).length = ks.length := by rw [opsIdx_len]; simp [cOps]
  have hchk : chk (at_.set id 1) = 0 := chk_zero.2 ⟨by rw [set_len]; omega, by rw [set_len]; omega, fun t ht => by
    rw [set_len] at ht
    rw [getD_set (by omega)]
    split
    · decide
    · rcases ha t (by omega) with e | e <;> rw [e] <;> decide⟩
  refine ⟨⟨hchk, by show (0 : Int) ≤ (id : Nat); omega, by show ((id : Nat) : Int) < ((at_.set id 1).length : Nat); rw [set_len]; omega, ?_, by show (opsIdx (cOps ks)).length ≤ 12; omega, ?_, fun i hi => ?_⟩, rising_idx _, by show (at_.set id 1).length = n; rw [set_len, hl], rfl, ?_, ⟨by show (at_.set id 1).length ≤ 20; rw [set_len]; omega, by show (opsIdx (cOps ks)).length ≤ 20; omega, fun o ho => ?_⟩, ⟨by show (at_.set id 1).length ≤ 1000000; rw [set_len]; omega, by show (opsIdx (cOps ks)).length ≤ 1000000; omega, fun o ho => ?_⟩⟩
  · show (at_.set id 1).getD ((id : Nat) : Int).toNat 0 ≠ 0
    rw [Int.toNat_natCast, getD_set (by omega), if_pos rfl]
    decide
  · show opsIdx (cOps ks) ≠ []
    intro e
    have : 0 < ks.length := List.length_pos_iff.2 hks
    rw [e] at hlen
    simp at hlen
    omega
  · have hi' : i < (opsIdx (cOps ks)).length := hi
    show opBad ((at_.set id 1).length : Nat) (opsIdx (cOps ks)) i = 0
    obtain ⟨m1, m2, m3, m4, m5, m6, m7, m8⟩ := cOps_mem (List.getElem_mem hi')
    have e0 : opErr (opsIdx (cOps ks))[i]! ((at_.set id 1).length : Nat) = 0 := by
      rw [getElem!_pos _ i hi']
      exact cOp_err (by rw [set_len]; omega) (by rw [set_len]; omega) (hn _ m1) m2 m3 m4 m5 m6 m7 (by omega)
    unfold opBad
    rw [e0, if_neg (by simp), if_neg]
    rintro ⟨h0, hle⟩
    rw [getElem!_pos _ i hi', getElem!_pos _ (i - 1) (by omega)] at hle
    have := (List.pairwise_iff_getElem.1 (rising_idx (cOps ks))) (i - 1) i (by omega) hi' (by omega)
    omega
  · show leB (at_.set id 1) (List.replicate n 0) = false
    unfold leB
    rw [List.all_eq_false]
    refine ⟨id, List.mem_range.2 (by rw [set_len]; omega), ?_⟩
    rw [getD_set (by omega), if_pos rfl]
    have : (List.replicate n (0 : Int)).getD id 0 = 0 := by
      rw [List.getD_eq_getElem?_getD, List.getElem?_replicate]
      split <;> rfl
    rw [this]
    decide
  · obtain ⟨m1, m2, m3, m4, m5, m6, m7, m8⟩ := cOps_mem ho
    have hs : o.key.size ≤ 16 := by
      have := hn _ m1
      unfold nameB at this
      simp at this
      exact this.2.1
    rw [m4, m6]
    exact ⟨by omega, by decide, by decide⟩
  · obtain ⟨m1, m2, m3, m4, m5, m6, m7, m8⟩ := cOps_mem ho
    show o.text.size ≤ 1000000 ∧ o.dots.length ≤ 1000000
    rw [m4, m6]
    decide
theorem mem_rowMs {tell : Nat → Nat → List MsgV} {j : Nat} {x : MsgV} : ∀ {k : Nat}, x ∈ rowMs tell j k ↔ ∃ s, s < k ∧ x ∈ tell j s
  | 0 => ⟨fun h => by simp [rowMs] at h, fun ⟨s, h, _⟩ => by omega⟩
  | k + 1 => by
    show x ∈ rowMs tell j k ++ tell j k ↔ _
    rw [List.mem_append, mem_rowMs]
    constructor
    · rintro (⟨s, h1, h2⟩ | h)
      · exact ⟨s, by omega, h2⟩
      · exact ⟨k, by omega, h⟩
    · rintro ⟨s, h1, h2⟩
      by_cases e : s = k
      · subst e; exact .inr h2
      · exact .inl ⟨s, by omega, h2⟩
theorem mem_allMs {tell : Nat → Nat → List MsgV} {id k : Nat} {x : MsgV} : ∀ {n : Nat}, x ∈ allMs tell id k n ↔ ∃ j s, j < n ∧ j ≠ id ∧ s < k ∧ x ∈ tell j s
  | 0 => ⟨fun h => by simp [allMs] at h, fun ⟨j, s, h, _⟩ => by omega⟩
  | n + 1 => by
    show (x ∈ allMs tell id k n ++ if n = id then [] else rowMs tell n k) ↔ _
    rw [List.mem_append, mem_allMs]
    constructor
    · rintro (⟨j, s, h1, h2, h3, h4⟩ | h)
      · exact ⟨j, s, by omega, h2, h3, h4⟩
      · by_cases e : n = id
        · rw [if_pos e] at h; simp at h
        · rw [if_neg e] at h
          obtain ⟨s, h3, h4⟩ := mem_rowMs.1 h
          exact ⟨n, s, by omega, e, h3, h4⟩
    · rintro ⟨j, s, h1, h2, h3, h4⟩
      by_cases e : j = n
      · subst e
        rw [if_neg h2]
        exact .inr (mem_rowMs.2 ⟨s, h3, h4⟩)
      · exact .inl ⟨j, s, by omega, h2, h3, h4⟩
/-- The place behind its commit. -/
def pv2 (v : PlV) (c : ComV) : PlV := { comV1 v c with Y := sendY (comV1 v c) c }
/-- What is sent of the commit. -/
theorem sent_mem {v : PlV} {c : ComV} (hs : ∀ j s, v.line j s → (v.Y j s).sq = 0) (ht : timeC c = 1) {x : MsgV} : x ∈ allMs (sendT (comV1 v c) c) v.id v.k v.n ↔ ∃ j s, v.line j s ∧ qS c v.k s = 1 ∧ x = cmM v.id j c v.k s := by
  have e : ∀ j s, v.line j s → sendM (comV1 v c) c j s = cmM v.id j c v.k s := fun j s q => by
    show (⟨v.id, j, s, (v.Y j s).sq + 1, timeC c, false, partV c v.k s⟩ : MsgV) = ⟨v.id, j, s, 1, 1, false, partV c v.k s⟩
    rw [hs j s q, ht]
    rfl
  rw [mem_allMs]
  constructor
  · rintro ⟨j, s, h1, h2, h3, h4⟩
    unfold sendT at h4
    split at h4
    · simp at h4
    · rename_i hne
      have hne' : partOps c.ops v.k s ≠ [] := hne
      rw [List.mem_singleton, e j s ⟨h1, h2, h3⟩] at h4
      exact ⟨j, s, ⟨h1, h2, h3⟩, qS_one hne', h4⟩
  · rintro ⟨j, s, q, h1, rfl⟩
    refine ⟨j, s, q.1, q.2.1, q.2.2, ?_⟩
    unfold sendT
    rw [if_neg (show ¬ partOps c.ops (comV1 v c).k s = [] from qS_some h1), e j s q]
    simp
theorem sent_sq {v : PlV} {c : ComV} {j s : Nat} (hs : (v.Y j s).sq = 0) : ((pv2 v c).Y j s).sq = (qS c v.k s : Nat) := by
  show (sendY (comV1 v c) c j s).sq = _
  unfold sendY qS
  show (if partOps c.ops v.k s = [] then v.Y j s else _).sq = _
  by_cases e : partOps c.ops v.k s = []
  · rw [if_pos e, if_pos e, hs]; rfl
  · rw [if_neg e, if_neg e]
    show (v.Y j s).sq + 1 = 1
    omega
/-- What is sent of the beat behind it. -/
theorem beat_mem {v : PlV} {c : ComV} (hs : ∀ j s, v.line j s → (v.Y j s).sq = 0) (hck : v.ck = 0) {x : MsgV} : x ∈ allMs (beatT (pv2 v c)) (pv2 v c).id (pv2 v c).k (pv2 v c).n ↔ ∃ j s, v.line j s ∧ x = bmM v.id j c v.k s := by
  have e : ∀ j s, v.line j s → beatT (pv2 v c) j s = [bmM v.id j c v.k s] := fun j s q => by
    show [beatM v.id j s (((pv2 v c).Y j s).sq + 1) (v.ck + 1)] = _
    rw [sent_sq (hs j s q), hck]
    rfl
  rw [mem_allMs]
  constructor
  · rintro ⟨j, s, h1, h2, h3, h4⟩
    rw [e j s ⟨h1, h2, h3⟩, List.mem_singleton] at h4
    exact ⟨j, s, ⟨h1, h2, h3⟩, h4⟩
  · rintro ⟨j, s, q, rfl⟩
    exact ⟨j, s, q.1, q.2.1, q.2.2, by rw [e j s q]; simp⟩
theorem pvOk2 {v : PlV} {c : ComV} (h : PvOk v) (hs : ∀ j s, v.line j s → (v.Y j s).sq = 0 ∧ (v.Y j s).st = 0 ∧ (v.Y j s).ms = []) (hck : v.ck = 0) (ht : timeC c = 1) : PvOk (pv2 v c) := by
  have hl : ∀ j s, (pv2 v c).line j s → v.line j s := fun j s q => q
  have hY : ∀ j s, (pv2 v c).Y j s = if partOps c.ops v.k s = [] then v.Y j s else { v.Y j s with sq := (v.Y j s).sq + 1, st := timeC c, ms := (v.Y j s).ms ++ [sendM (comV1 v c) c j s] } := fun _ _ => rfl
  have e : (pv2 v c).ck = 1 := by show v.ck + 1 = 1; omega
  have hq : ∀ s, qS c v.k s ≤ 1 := fun s => qS_le c v.k s
  have hst : ∀ j s, v.line j s → 0 ≤ ((pv2 v c).Y j s).st ∧ ((pv2 v c).Y j s).st ≤ 1 := fun j s q => by
    rw [hY]
    split
    · rw [(hs j s q).2.1]; decide
    · show 0 ≤ timeC c ∧ timeC c ≤ 1
      rw [ht]; decide
  have hrt : ∀ j s, ((pv2 v c).Y j s).rt = (v.Y j s).rt := fun j s => by rw [hY]; split <;> rfl
  refine ⟨by rw [e]; decide, by rw [e]; decide, fun j s q => ?_, fun j s q => ?_, fun j s q => ?_, fun j s q => (hst j s (hl j s q)).1, fun j s q => by rw [e]; exact (hst j s (hl j s q)).2, fun j s q => ?_, fun j s q => ?_⟩
  · rw [sent_sq (hs j s (hl j s q)).1]; omega
  · rw [sent_sq (hs j s (hl j s q)).1]; have := hq s; omega
  · rw [hY]
    split
    · rw [(hs j s (hl j s q)).2.2]; decide
    · show ((v.Y j s).ms ++ [sendM (comV1 v c) c j s]).length ≤ 900
      rw [(hs j s (hl j s q)).2.2]
      exact (by decide : 1 ≤ 900)
  · rw [hrt]; exact h.rt0 j s (hl j s q)
  · rw [hrt]; exact h.rt1 j s (hl j s q)
/-- A place that has heard, and sent nothing, may commit counters at what it sees. -/
theorem RcI.tx {n id k : Nat} {C : Nat → ComV} {J : Nat → Prop} {i : Nat} {h : PlH} {v : PlV} {w : World} (a : PlAt w h v) (hI : RcI n id k C J i h v) (hi : i ≤ 70) (hC : ∀ j, J j → SrcOk n C j) {ks : List ByteArray} (hks : ks ≠ []) (h12 : ks.length ≤ 12) (hn : ∀ key ∈ ks, nameB key = true) : TxOk w h v (snapV v) (cOps ks) ∧ SrcOk n (fun _ => comN (snapV v) id 1 (cOps ks)) id ∧ PvOk v ∧ chk (snapV v) = 0 := by
  have n1 : 1 ≤ n := by have := a.idn; have := hI.vn; omega
  have n6 : n ≤ 6 := by have := a.n6; have := hI.vn; omega
  have hid : id < n := by have := a.idn; have := hI.vn; have := hI.vid; omega
  have k1 : 1 ≤ k := by have := a.k1; have := hI.vk; omega
  have hl : (snapV v).length = n := by rw [snapV_len, hI.vn]
  have hget : ∀ j, j < n → (snapV v).getD j 0 = snapJ v j := fun j hj => by
    unfold snapV
    rw [hI.vn, List.getD_eq_getElem?_getD]
    simp [hj]
  have h01 : ∀ j, j < n → (snapV v).getD j 0 = 0 ∨ (snapV v).getD j 0 = 1 := fun j hj => by
    rw [hget j hj]
    by_cases e : j = id
    · left
      show (if j = v.id then v.ck else _) = 0
      rw [if_pos (by rw [hI.vid]; exact e), hI.ck]
    · rcases hI.snap k1 j hj e with q | ⟨q, _⟩
      · exact .inl q
      · exact .inr q
  have hS := cCom_ok hl hid n6 h01 hks h12 hn
  have hchk : chk (snapV v) = 0 := chk_zero.2 ⟨by omega, by omega, fun t ht => by rcases h01 t (by omega) with e | e <;> rw [e] <;> decide⟩
  obtain ⟨D, hK, hlen, hSt, hst, hD, hmem⟩ := hI.kept hC n1 n6
  have e1 : comN (snapV v) v.id (v.ck + 1) (cOps ks) = comN (snapV v) id 1 (cOps ks) := by rw [hI.vid, hI.ck]; rfl
  have hlen0 : (cOps ks).length = ks.length := by simp [cOps]
  refine ⟨⟨?_, ?_, ⟨by show (snapV v).length ≤ 20; omega, by show (cOps ks).length ≤ 20; omega, fun o ho => ?_⟩, ?_, hSt.base, fun kk => ?_, by have := hI.nn; omega, by rw [hI.ck]; decide, fun s hs hne => ?_⟩, hS, ⟨by rw [hI.ck]; decide, by rw [hI.ck]; decide, fun j s q => ?_, fun j s q => ?_, fun j s q => ?_, fun j s q => ?_, fun j s q => ?_, fun j s q => ?_, fun j s q => ?_⟩, hchk⟩
  · unfold two
    rw [hchk]
    simp
  · unfold leB
    rw [List.all_eq_true]
    intro i _
    exact decide_eq_true (Int.le_refl _)
  · obtain ⟨key, hk, rfl⟩ := List.mem_map.1 ho
    have := hn _ hk
    unfold nameB at this
    simp at this
    exact ⟨by show key.size ≤ 60; omega, by show ByteArray.empty.size ≤ 200; decide, by show ([] : List D3).length ≤ 70; decide⟩
  · rw [e1, hst]
    refine ⟨comErr_zero (comErr_of hS.ok), by rw [hS.len]; simp [stOf], hS.old, fun o ho hd => ?_⟩
    obtain ⟨x, hx, hd⟩ := List.mem_flatMap.1 hd
    obtain ⟨p, hp, rfl⟩ := List.mem_map.1 hx
    obtain ⟨o', _, e⟩ := List.mem_map.1 hd
    have hp' := (hmem p).1 hp
    have ep : (C p.1).place = (id : Int) := by injection e
    rw [(hC _ hp'.2.1).place] at ep
    have := hp'.1.2.1
    rw [hI.vid] at this
    omega
  · rw [hst]
    have := rowOf_few hK (by rw [List.length_map]; omega) kk
    omega
  · rw [e1]
    exact comE_of (comOk_part hS.ok hS.rise hne)
  · rw [(hI.sn j s q).1]; decide
  · rw [(hI.sn j s q).1]; decide
  · rw [(hI.sn j s q).2.2]; decide
  · rw [(hI.sn j s q).2.1]; decide
  · rw [(hI.sn j s q).2.1, hI.ck]; decide
  all_goals
    by_cases hJ : J j
    · rcases hI.ln j s q hJ with e | e <;> rw [e.rt] <;> decide
    · rw [hI.no j s q hJ]; decide
theorem timeC_c {at_ : List Int} {id : Nat} {os : List OpV} (h : id < at_.length) : timeC (comN at_ id 1 os) = 1 := timeC_comN h
end Go.Proofs.YtefpnojanldkeaaGreatDoor
