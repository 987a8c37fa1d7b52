/- PlaceCause: the two commits and the two beats, among three places. -/
import Derived.Test.YtefpnojanldkeaaGreatDoorFMV
import Derived.Test.YtefpnojanldkeaaGreatDoorFMJ
namespace Go.Proofs.YtefpnojanldkeaaGreatDoor
open Go.RowKit Go.Maps
set_option maxRecDepth 10000
set_option linter.unusedSectionVars false
variable [Inhabited ComV] [DecidableEq D3] [Inhabited D3] [Inhabited Dd] [Inhabited Dn] [Inhabited OpV]

theorem new_c (id : Nat) (hid_ : id < 3) (W : World) (k : Nat) (k1 : 1 ≤ k) (k6 : k ≤ 6) : Calls Tryz.prog 7 #[.int .i64 id, .int .i64 3, .int .i64 k] W fun e w' => ∃ h : PlH, e = .returned (.tuple #[.pointer (some ⟨h.pb, 0, none⟩), .nilIface]) ∧ PlAt w' h (pv0 id 3 k) ∧ (∀ b, h.foot (pv0 id 3 k) b → W.heap.size ≤ b) ∧ Below W.heap.size W w' ∧ h.nn = 0 ∧ ∀ j s, (pv0 id 3 k).line j s → (h.X j s).n = 0 :=
  new_any W id 3 k hid_ (by decide) k1 k6
theorem TrI.start {w W1 W2 W3 W4 : World} {k : Nat} {hp hq hz : PlH} (b1 : Below w.heap.size w W1) (p : PlAt W2 hp (pv0 0 3 k)) (lp : ∀ b, hp.foot (pv0 0 3 k) b → W1.heap.size ≤ b) (b2 : Below W1.heap.size W1 W2) (q : PlAt W3 hq (pv0 1 3 k)) (lq : ∀ b, hq.foot (pv0 1 3 k) b → W2.heap.size ≤ b) (b3 : Below W2.heap.size W2 W3) (z : PlAt W4 hz (pv0 2 3 k)) (lz : ∀ b, hz.foot (pv0 2 3 k) b → W3.heap.size ≤ b) (b4 : Below W3.heap.size W3 W4) : TrI w hp (pv0 0 3 k) hq (pv0 1 3 k) hz (pv0 2 3 k) (.slice none 0 0) [] [] W4 := by
  have s1 := b1.size
  have s2 := b2.size
  have s3 := b3.size
  refine ⟨((b1.trans (b2.mono s1)).trans (b3.mono (by omega))).trans (b4.mono (by omega)), (p.below b3).below b4, q.below b4, z, fun b h => by have := lp b h; omega, fun b h => by have := lq b h; omega, fun b h => by have := lz b h; omega, fun b h1 h2 => by have := p.lt h1; have := lq b h2; omega, fun b h1 h2 => by have := p.lt h1; have := lz b h2; omega, fun b h1 h2 => by have := q.lt h1; have := lz b h2; omega, World.ownsRow_nil _ _ _ _, (fun b h => by cases h), (fun b h => by cases h), (fun b h => by cases h), trivial⟩
variable {w W : World} {a b : ByteArray} {k : Nat} {hp hq hz : PlH} {vp vq vz : PlV} {lv : Value} {rs : List Raw} {ms : List MsgV} {i : Nat}
theorem cc0_time (a b : ByteArray) : timeC (CC a b 0) = 1 := rfl
theorem cc1_time (a b : ByteArray) : timeC (CC a b 1) = 1 := rfl
theorem cause_commit0 (A : Nat → Addr) (hS : Sen A w.heap.size W) (I : TrI w hp (pv0 0 3 k) hq vq hz vz (.slice none 0 0) [] [] W) (hnn : hp.nn = 0) (hx : ∀ j s, (pv0 0 3 k).line j s → (hp.X j s).n = 0) (ha : nameB a = true) (a1 a2 : Option Addr) (c1 c2 : Nat) (hv : IntsAt W (.slice a1 3 c1) [0, 0, 0]) (hO : OpsAt W (.slice a2 1 c2) (cOps [a])) :
    Calls Tryz.prog 9 #[.pointer (some ⟨hp.pb, 0, none⟩), .slice a1 3 c1, .slice a2 1 c2] W fun e W' => ∃ (hp' : PlH) (a3 a4 : Option Addr) (c3 c4 : Nat) (ra : Option Addr) (rc : Nat) (rs : List Raw) (ms : List MsgV), e = .returned (.tuple #[.agg #[.slice a3 3 c3, .int .i64 0, .slice a4 1 c4], .slice ra rs.length rc, .nilIface]) ∧ hp'.pb = hp.pb ∧ rs.length ≤ 18 ∧ TrI w hp' (pv2 (pv0 0 3 k) (CC a b 0)) hq vq hz vz (.slice ra rs.length rc) rs ms W' ∧ (∀ m ∈ ms, PMsg a b k m) ∧ ∀ s, s < k → qS (CC a b 0) k s = 1 → cmM 0 1 (CC a b 0) k s ∈ ms := by
  have k1 : 1 ≤ k := I.p.k1
  have hR := rcI0 (CC a b) (fun _ => False) hp hnn hx
  have es := snapV0 0 3 k k1
  have K := commit_gen A hS I.p I.lp hR (by decide) (fun _ h => h.elim) (ks := [a]) (by simp) (by simp) (by simpa using ha) a1 a2 3 c1 1 c2 (by rw [es]; exact hv) hO
  rw [es] at K
  refine K.mono ?_
  rintro e W' ⟨hp', a3, a4, c3, c4, rv, rs, he, hpb, hlen, hP, hM, hrow, hfr, hF⟩
  obtain ⟨ra, rc, hrv⟩ := row_shape hrow
  subst hrv
  have hP' : PlAt W' hp' (pv2 (pv0 0 3 k) (CC a b 0)) := hP
  have hM' : PlMoves W W' hp (pv0 0 3 k) hp' (pv2 (pv0 0 3 k) (CC a b 0)) := hM
  have hF' : F2 (RawOwn 0 W') rs (allMs (sendT (comV1 (pv0 0 3 k) (CC a b 0)) (CC a b 0)) (pv0 0 3 k).id (pv0 0 3 k).k (pv0 0 3 k).n) := hF
  have I' := I.moveP hP' hM'
  have hmem : ∀ m, m ∈ allMs (sendT (comV1 (pv0 0 3 k) (CC a b 0)) (CC a b 0)) (pv0 0 3 k).id (pv0 0 3 k).k (pv0 0 3 k).n ↔ ∃ t s, t < 3 ∧ t ≠ 0 ∧ s < k ∧ qS (CC a b 0) k s = 1 ∧ m = cmM 0 t (CC a b 0) k s := fun m => cm_mem (v := pv0 0 3 k) rfl rfl rfl (fun _ _ _ => rfl) (cc0_time a b)
  have hlen' : rs.length ≤ 18 := by have h1 : rs.length ≤ 3 * k := hlen; have h2 : k ≤ 6 := I.p.k6; omega
  refine ⟨hp', a3, a4, c3, c4, ra, rc, rs, _, he, hpb, hlen', I'.swap I.bel.size hrow hfr (fun b hb e => ?_) (fun b hb e => ?_) hF', fun m hm => ?_, fun s hs hq1 => (hmem _).2 ⟨1, s, by decide, by decide, hs, hq1, rfl⟩⟩
  · have := (hrow.lt b hb).1
    have := I.q.lt e
    omega
  · have := (hrow.lt b hb).1
    have := I.z.lt e
    omega
  · obtain ⟨t, s, h1, h2, h3, h4, h5⟩ := (hmem m).1 hm
    exact ⟨t, s, h1, h2, h3, .inl ⟨h4, h5⟩⟩
theorem cause_beat0 (I : TrI w hp (pv2 (pv0 0 3 k) (CC a b 0)) hq vq hz vz lv rs ms W) :
    Calls Tryz.prog 10 #[.pointer (some ⟨hp.pb, 0, none⟩)] W fun e W' => ∃ (hp' : PlH) (vp' : PlV) (ra : Option Addr) (rc : Nat) (r2 : List Raw) (m2 : List MsgV), e = .returned (.slice ra r2.length rc) ∧ r2.length ≤ 18 ∧ TrI w hp' vp' hq vq hz vz lv rs ms W' ∧ SrcAt W' (.slice ra r2.length rc) r2.length 9 (raws r2) ∧ F2 (RawOwn 0 W') r2 m2 ∧ (∀ m ∈ m2, PMsg a b k m) ∧ ∀ s, s < k → bmM 0 1 (CC a b 0) k s ∈ m2 := by
  have hR := rcI0 (n := 3) (id := 0) (k := k) (CC a b) (fun _ => False) ⟨0, 0, 0, fun _ => 0, fun _ _ => ln0 0 0 0, 0, 0, fun _ => .slice none 0 0, 0⟩ rfl (fun _ _ _ => rfl)
  refine (beat_gen I.p hR (pvOk0 0 3 k) (cc0_time a b)).mono ?_
  rintro e W' ⟨hp', vp', rv, r2, he, hpb, hlen, hP, hM, hrow, hF⟩
  obtain ⟨ra, rc, hrv⟩ := row_shape hrow
  subst hrv
  have hmem : ∀ m, m ∈ allMs (beatT (pv2 (pv0 0 3 k) (CC a b 0))) (pv2 (pv0 0 3 k) (CC a b 0)).id (pv2 (pv0 0 3 k) (CC a b 0)).k (pv2 (pv0 0 3 k) (CC a b 0)).n ↔ ∃ t s, t < 3 ∧ t ≠ 0 ∧ s < k ∧ m = bmM 0 t (CC a b 0) k s := fun m => bm_mem (v := pv0 0 3 k) rfl rfl rfl (fun _ _ _ => rfl) rfl
  have hlen' : r2.length ≤ 18 := by have h1 : r2.length ≤ 3 * k := hlen; have h2 : k ≤ 6 := I.p.k6; omega
  refine ⟨hp', vp', ra, rc, r2, _, he, hlen', I.moveP hP hM, src_row hrow, hF, fun m hm => ?_, fun s hs => (hmem _).2 ⟨1, s, by decide, by decide, hs, rfl⟩⟩
  obtain ⟨t, s, h1, h2, h3, h4⟩ := (hmem m).1 hm
  exact ⟨t, s, h1, h2, h3, .inr h4⟩
theorem cause_commit1 (A : Nat → Addr) (hS : Sen A w.heap.size W) (I : TrI w hp vp hq vq hz vz lv rs ms W) (hR : RcI 3 1 k (CC a b) (· = 0) i hq vq) (hi : i ≤ 70) (hsn : snapV vq = [1, 0, 0]) (ha : nameB a = true) (hb : nameB b = true) (a1 a2 : Option Addr) (c1 c2 : Nat) (hv : IntsAt W (.slice a1 3 c1) [1, 0, 0]) (hO : OpsAt W (.slice a2 1 c2) (cOps [b])) :
    Calls Tryz.prog 9 #[.pointer (some ⟨hq.pb, 0, none⟩), .slice a1 3 c1, .slice a2 1 c2] W fun e W' => ∃ (hq' : PlH) (a3 a4 : Option Addr) (c3 c4 : Nat) (ra : Option Addr) (rc : Nat) (r2 : List Raw) (m2 : List MsgV), e = .returned (.tuple #[.agg #[.slice a3 3 c3, .int .i64 1, .slice a4 1 c4], .slice ra r2.length rc, .nilIface]) ∧ hq'.pb = hq.pb ∧ r2.length ≤ 18 ∧ TrI w hp vp hq' (pv2 vq (CC a b 1)) hz vz lv rs ms W' ∧ SrcAt W' (.slice ra r2.length rc) r2.length 9 (raws r2) ∧ F2 (RawOwn 0 W') r2 m2 ∧ ∀ m ∈ m2, CMsg a b k m := by
  have K := commit_gen A hS I.q I.lq hR hi (fun j hj => cc_src ha hb j (by omega)) (ks := [b]) (by simp) (by simp) (by simpa using hb) a1 a2 3 c1 1 c2 (by rw [hsn]; exact hv) hO
  rw [hsn, hR.vid] at K
  refine K.mono ?_
  rintro e W' ⟨hq', a3, a4, c3, c4, rv, r2, he, hpb, hlen, hP, hM, hrow, hfr, hF⟩
  obtain ⟨ra, rc, hrv⟩ := row_shape hrow
  subst hrv
  rw [hR.vid] at he
  have hP' : PlAt W' hq' (pv2 vq (CC a b 1)) := hP
  have hM' : PlMoves W W' hq vq hq' (pv2 vq (CC a b 1)) := hM
  have hF' : F2 (RawOwn 0 W') r2 (allMs (sendT (comV1 vq (CC a b 1)) (CC a b 1)) vq.id vq.k vq.n) := hF
  have hlen' : r2.length ≤ 18 := by rw [hR.vn] at hlen; have h2 := I.q.k6; omega
  refine ⟨hq', a3, a4, c3, c4, ra, rc, r2, _, he, hpb, hlen', I.moveQ hP' hM', src_row hrow, hF', fun m hm => ?_⟩
  obtain ⟨t, s, h1, h2, h3, h4, h5⟩ := (cm_mem hR.vid hR.vn hR.vk (fun j s q => (hR.sn j s q).1) (cc1_time a b)).1 hm
  exact ⟨1, t, s, by decide, h1, h2, h3, .inl ⟨h4, h5⟩⟩
theorem cause_beat1 (I : TrI w hp vp hq (pv2 vq (CC a b 1)) hz vz lv rs ms W) (hq0 : PlH) (hR : RcI 3 1 k (CC a b) (· = 0) i hq0 vq) (hok : PvOk vq) :
    Calls Tryz.prog 10 #[.pointer (some ⟨hq.pb, 0, none⟩)] W fun e W' => ∃ (hq' : PlH) (vq' : PlV) (ra : Option Addr) (rc : Nat) (r2 : List Raw) (m2 : List MsgV), e = .returned (.slice ra r2.length rc) ∧ r2.length ≤ 18 ∧ TrI w hp vp hq' vq' hz vz lv rs ms W' ∧ SrcAt W' (.slice ra r2.length rc) r2.length 9 (raws r2) ∧ F2 (RawOwn 0 W') r2 m2 ∧ ∀ m ∈ m2, CMsg a b k m := by
  refine (beat_gen I.q hR hok (cc1_time a b)).mono ?_
  rintro e W' ⟨hq', vq', rv, r2, he, hpb, hlen, hP, hM, hrow, hF⟩
  obtain ⟨ra, rc, hrv⟩ := row_shape hrow
  subst hrv
  have hlen' : r2.length ≤ 18 := by rw [hR.vn] at hlen; have h2 : vq.k ≤ 6 := I.q.k6; omega
  refine ⟨hq', vq', ra, rc, r2, _, he, hlen', I.moveQ hP hM, src_row hrow, hF, fun m hm => ?_⟩
  obtain ⟨t, s, h1, h2, h3, h4⟩ := (bm_mem hR.vid hR.vn hR.vk (fun j s q => (hR.sn j s q).1) hR.ck).1 hm
  exact ⟨1, t, s, by decide, h1, h2, h3, .inr h4⟩
/-- What place 2 sees in the end. -/
theorem ZI.end_ (I : ZI w a b k hp vp hq vq hz vz lv rs ms i W) : leB (CC a b 1).when_ (snapV vz) = false ∨ (leB (CC a b 0).when_ (snapV vz) = true ∧ ∀ s, s < k → (vz.Y 0 s).rt = 1) := by
  have k1 : 1 ≤ k := by have := I.tr.z.k1; have := I.rc.vk; omega
  have e2 : snapJ vz 2 = 0 := by
    unfold snapJ
    rw [if_pos I.rc.vid.symm, I.rc.ck]
  have h1 : snapJ vz 1 = 0 ∨ snapJ vz 1 = 1 := (I.rc.snap k1 1 (by decide) (by decide)).imp id (·.1)
  have hs : snapV vz = [snapJ vz 0, snapJ vz 1, 0] := by
    unfold snapV
    rw [I.rc.vn]
    show [snapJ vz 0, snapJ vz 1, snapJ vz 2] = _
    rw [e2]
  rcases I.rc.snap k1 0 (by decide) (by decide) with e | ⟨e, _, hall⟩
  · left
    rw [hs, e]
    rcases h1 with e1 | e1 <;> rw [e1] <;> rfl
  · right
    rw [hs, e]
    exact ⟨by rcases h1 with e1 | e1 <;> rw [e1] <;> rfl, hall⟩
/-- What a place reads of a, and of b. -/
theorem cause_read (A : Nat → Addr) {id : Nat} {J : Nat → Prop} {h : PlH} {v : PlV} (hE : E4 A W) (h12 : 12 ≤ W.heap.size) (at0 : PlAt W h v) (hI : RcI 3 id k (CC a b) J i h v) (hi : i ≤ 70) (hJ2 : ∀ j, J j → j < 2) (ha : nameB a = true) (hb : nameB b = true) (hne : a ≠ b) {j : Nat} (hJ : J j) (hji : j ≠ id) {key : ByteArray} (hkey : key = kyC a b j) (va : Option Addr) (vc : Nat) (hv : IntsAt W (.slice va 3 vc) (snapV v)) :
    Calls Tryz.prog 13 #[.pointer (some ⟨h.pb, 0, none⟩), .string key, .slice va 3 vc] W fun e W' => ∃ (kd : Int) (t : ByteArray) (x : Int) (sa : Option Addr) (sn sc : Nat), e = .returned (.tuple #[.agg #[.int .i64 kd, .string t, .int .i64 x, .slice sa sn sc], .nilIface]) ∧ Below W.heap.size W W' ∧ (leB (CC a b j).when_ (snapV v) = false → x = 0) ∧ (leB (CC a b j).when_ (snapV v) = true → (∀ s, s < k → (v.Y j s).rt = 1) → x = 1) := by
  subst hkey
  have hj2 := hJ2 j hJ
  exact read_one A hE h12 at0 hI hi (fun j h => cc_src ha hb j (hJ2 j h)) (ky := kyC a b) (fun j h => cc_ops a b j (hJ2 j h)) (fun j j' h h' => cc_ky hne j j' (hJ2 j h) (hJ2 j' h')) hJ (by omega) hji (by unfold kyC; split <;> assumption) va 3 vc hv
end Go.Proofs.YtefpnojanldkeaaGreatDoor
