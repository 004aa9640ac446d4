/- verify: walked; Check, Deep, Reached. | VerifyChecks: the document's whole, same, least, goes. -/
import Derived.Test.YtlckedionmgjjaaDoorMg18
import Derived.Deep.QuietTactic
import Derived.BigQuiet
namespace Go.Proofs.YtlckedionmgjjaaDoor
open Go.RowKit
theorem chk_ok {x : Img} (h : (chkP x).2 = 0) : frameB x = true := by
  unfold chkP at h
  cases hf : frameB x with
  | true => rfl
  | false => rw [hf] at h; exact absurd h (by show ¬ (130 : Int) = 0; decide)
structure ChkF (x : Img) : Prop where
  ty : x.ty.length ≤ 1024
  fi : x.fi.length = x.ty.length
  ins : x.ins.length ≤ 1024
  outs : x.outs.length ≤ 1024
  c1 : 1 ≤ x.cd.length
  c2 : x.cd.length ≤ 4096
theorem frame_facts {x : Img} (h : frameB x = true) : ChkF x := by
  unfold frameB cellB at h
  simp only [Bool.and_eq_true, decide_eq_true_eq] at h
  obtain ⟨_, ⟨h1, h2, _⟩, h3, h4, h5⟩ := h
  have h6 := line_len h3
  rw [List.length_append] at h6
  exact ⟨h2, h1.symm, by omega, by omega, h4, h5⟩
theorem bad_none {ty : List Int} {m : Nat} : ∀ {l : List Ins} {k : Nat}, badAt ty m k l = none → ∀ i ∈ l, mayI ty m i = true
  | [], _, _ => fun i hi => by cases hi
  | j :: l, k, h => fun i hi => by
    cases hm : mayI ty m j with
    | false => rw [bad_here hm] at h; cases h
    | true =>
      rw [bad_next hm] at h
      rcases List.mem_cons.1 hi with rfl | hi
      · exact hm
      · exact bad_none h i hi
theorem chk_all {x : Img} (h : (chkP x).2 = 0) : ∀ i ∈ x.cd, mayI x.ty x.cd.length i = true := by
  have hf := chk_ok h
  unfold chkP at h
  rw [hf] at h
  simp only [if_true] at h
  cases hb : badAt x.ty x.cd.length 0 x.cd with
  | none => exact bad_none hb
  | some k => rw [hb] at h; exact absurd h (by show ¬ (130 : Int) = 0; decide)
theorem chk_130 {x : Img} (h : (chkP x).2 ≠ 0) : (chkP x).2 = 130 := by
  unfold chkP at h ⊢
  cases hf : frameB x with
  | false => rfl
  | true =>
    rw [hf] at h
    simp only [if_true] at h ⊢
    cases hb : badAt x.ty x.cd.length 0 x.cd with
    | none => rw [hb] at h; exact absurd rfl h
    | some k => rfl
theorem types_ok {x : Img} (h : (chkP x).2 = 0) : ∀ t ∈ x.ty, 1 ≤ t ∧ t ≤ 4 := fun t ht => by
  have hf := chk_ok h
  unfold frameB cellB at hf
  simp only [Bool.and_eq_true, decide_eq_true_eq] at hf
  obtain ⟨_, ⟨h1, _, h3⟩, _⟩ := hf
  obtain ⟨k, hk⟩ := List.mem_iff_getElem?.1 ht
  have hkl := (List.getElem?_eq_some_iff.1 hk).1
  have hy : x.fi[k]? = some (x.fi[k]'(by omega)) := List.getElem?_eq_getElem (by omega)
  have hz : (List.zipWith Four.fitB x.ty x.fi)[k]? = some (Four.fitB t (x.fi[k]'(by omega))) := by rw [List.getElem?_zipWith, hk, hy]
  have := List.all_eq_true.1 h3 _ (List.mem_of_getElem? hz)
  exact ty_range (Four.fit_ty this)
theorem ins_may {x : Img} (h : (chkP x).2 = 0) (k : Nat) (hk : k < x.cd.length) : mayI x.ty x.cd.length (insAt x.cd k) = true := by
  refine chk_all h _ ?_
  unfold insAt
  rw [List.getD_eq_getElem?_getD, List.getElem?_eq_getElem hk]
  exact List.getElem_mem hk
theorem results_tmp_row {P : Program} {fn : Func} {p u : Tmp} {ty : TypeId} (h : fn.results = #[.tmp u, .cell p ty]) (tmps : Array Value) (w : World) (g : Nat) (t : TypeId) (cs : Array Value) (fr : Nat × Nat) (d : TypeDesc) (v : Value)
    (hp : tmps.getD p undef = .pointer (some ⟨g, 0, none⟩)) (hv : tmps.getD u undef = v) (hg : w.heap[g]? = some (.cells cs t fr))
    (hu : P.underlying ty = some d) (hd : (match d with | .struct _ | .array _ _ => true | _ => false) = true) (hi : (P.info? ty).map (·.size) = some cs.size) :
    (results fn tmps).run P w = .ok (.tuple #[v, .agg cs]) w := by
  have hp' : tmps[p]?.getD undef = .pointer (some ⟨g, 0, none⟩) := by simpa using hp
  have hv' : tmps[u]?.getD undef = v := by simpa using hv
  simp [results, h, hp', hv', asAddr, run_loadVar_row w g t ty cs fr d hg hu hd hi]
theorem run_err {ty : List Int} {cd : List Ins} : ∀ (c : Nat) (m : Vs) (q : Int × Int), runS ty cd c m = .inr q → q.2 = 150 ∨ q.2 = 151
  | 0, m, q, h => by cases h
  | c + 1, m, q, h => by
    cases hl : leastS m.wt with
    | none => rw [run_none hl] at h; cases h
    | some j =>
      rw [run_some hl] at h
      cases hk : lookS ty cd (offS m j) j with
      | inr e => rw [hk] at h; obtain rfl := Sum.inr.inj h; exact look_err hk
      | inl m' => rw [hk] at h; exact run_err c m' q h
theorem walk_err {x : Img} {q : Int × Int} (h : walkP x = .inr q) : (q.2 != 0) = true := by
  unfold walkP at h
  split at h
  · rcases run_err _ _ _ h with e | e <;> rw [e] <;> rfl
  · rename_i h0
    obtain rfl := Sum.inr.inj h
    simpa using h0
def WQ (xs : List Value) (n : Nat) (w : World) (R : Vs ⊕ (Int × Int)) (e : Ending) (w' : World) : Prop :=
  match R with
  | .inl m => ∃ g g1 g2, e = .returned (.tuple #[.pointer (some ⟨g, 0, none⟩), .agg #[.int .i64 0, .int .i64 0]]) ∧ WM n g g1 g2 xs m w' ∧ Below w.heap.size w w' ∧ w.heap.size ≤ g ∧ w.heap.size ≤ g1 ∧ w.heap.size ≤ g2
  | .inr q => ∃ p, e = .returned (.tuple #[.pointer p, .agg #[.int .i64 q.1, .int .i64 q.2]]) ∧ Below w.heap.size w w'
set_option maxRecDepth 100000 in
set_option maxHeartbeats 3200000 in
theorem walked_any (nm tv fv iv ov cv : Value) (x : Img) (w : World) (hg : GlC w) (htz : Tz w) (hx : Im w nm tv fv iv ov cv x) (hcap : ∀ a n c, tv = .slice a n c → n ≤ c) (hl : ImL x) :
    Calls Tryd.prog 17 #[.agg #[nm, tv, fv, iv, ov, cv]] w fun e w' => WQ [nm, tv, fv, iv, ov, cv] x.cd.length w (walkP x) e w' := by
  have HB : Hid (∀ A C, Below w.heap.size w ((w.alloc A).alloc C)) := fun A C => ((Below.refl _ _).alloc (Nat.le_refl _) _).alloc (by simp) _
  have m15 : Hid (∀ W, Below w.heap.size w W → Calls Tryd.prog 15 #[.agg #[nm, tv, fv, iv, ov, cv]] W fun e w' => e = .returned (.tuple #[.int .i64 (chkP x).1, .int .i64 (chkP x).2]) ∧ Below W.heap.size W w') := fun W hb =>
    check_any nm tv fv iv ov cv x W (hg.on hb hg.lt) (hx.on hb) hcap hl
  obtain ⟨ca, cc, rfl⟩ := hx.cd.shape
  have X0 : Hid (∀ C, Ob ((w.alloc (.cells #[nm, tv, fv, iv, ov, .slice ca x.cd.length cc] 26)).alloc C) w.heap.size 26 [nm, tv, fv, iv, ov, .slice ca x.cd.length cc]) := fun C => (Ob.new w 26 _).on ((Below.refl _ _).alloc (Nat.le_refl _) _) (by simp)
  have F0 : Hid (∀ A, Ob ((w.alloc A).alloc (.cells #[.int .i64 0, .int .i64 0] 45)) (w.heap.size + 1) 45 [.int .i64 0, .int .i64 0]) := fun A => Four.two_at w _ _
  have hz : Hid (2 < w.heap.size) := htz.lt
  by_cases h0 : (chkP x).2 = 0
  · have hW : walkP x = runS x.ty x.cd x.cd.length (startS x.cd.length) := by unfold walkP; rw [if_pos h0]
    have hF := frame_facts (chk_ok h0)
    have HF := hide hF
    have m23 : Hid (∀ W, Below w.heap.size w W → Calls Tryd.prog 23 #[.agg #[nm, tv, fv, iv, ov, .slice ca x.cd.length cc]] W fun e w' => ∃ g g1 g2, e = .returned (.pointer (some ⟨g, 0, none⟩)) ∧ WM x.cd.length g g1 g2 [nm, tv, fv, iv, ov, .slice ca x.cd.length cc] (blankS x.cd.length) w' ∧ Below W.heap.size W w' ∧ W.heap.size ≤ g ∧ W.heap.size ≤ g1 ∧ W.heap.size ≤ g2) := fun W hb =>
      new_any nm tv fv iv ov _ x.cd.length ca cc rfl W hF.c1 hF.c2 (Nat.lt_of_lt_of_le hz.out hb.size)
    have m24 : Hid (∀ W g g1 g2, Below w.heap.size w W → w.heap.size ≤ g → w.heap.size ≤ g1 → w.heap.size ≤ g2 → WM x.cd.length g g1 g2 [nm, tv, fv, iv, ov, .slice ca x.cd.length cc] (blankS x.cd.length) W → Calls Tryd.prog 24 #[.pointer (some ⟨g, 0, none⟩)] W fun e w' => LookQ x.cd.length g g1 g2 [nm, tv, fv, iv, ov, .slice ca x.cd.length cc] W (runS x.ty x.cd x.cd.length (startS x.cd.length)) e w') := fun W g g1 g2 hb l0 l1 l2 hm =>
      through_any x.cd.length g g1 g2 nm tv fv iv ov _ x.ty x.cd W hm rfl (htz.on hb htz.lt) (fun W' hk => (hx.on (hb.trans (hk.below (B := w.heap.size) ⟨l0, l1, l2⟩ hb.size))).cd) (fun W' hk => (hx.on (hb.trans (hk.below (B := w.heap.size) ⟨l0, l1, l2⟩ hb.size))).ty) (types_ok h0) (ins_may h0)
    rw [h0] at m15
    rw [hW]
    generalize runS x.ty x.cd x.cd.length (startS x.cd.length) = R at *
    obtain ⟨n, hn⟩ : ∃ n, n = x.cd.length := ⟨_, rfl⟩
    rw [← hn] at m15 m23 m24 X0 ⊢
    obtain ⟨PQ, hPQ⟩ : ∃ PQ, PQ = WQ [nm, tv, fv, iv, ov, .slice ca n cc] n w R := ⟨_, rfl⟩
    have HPQ := hide hPQ
    rw [← hPQ]
    clear hg htz hx hcap hl h0 hW hF hn hPQ HF
    generalize (chkP x).1 = c1 at *
    go_enter Tryd.func17, Tryd.ntmps17
    go_wp2_with fail
    refine (m15.out _ (HB.out _ _)).mono ?_
    rintro e w1 ⟨rfl, b1⟩
    have X1 := hide ((X0.out _).on b1 (by simp; omega))
    have F1 := hide ((F0.out _).on b1 (by simp))
    have B1 := hide ((HB.out _ _).trans (b1.mono (by simp; omega)))
    clear b1 m15
    have x0 : w1.cell? ⟨w.heap.size, 0, none⟩ = some nm := X1.out.cell 0 rfl
    have x1 : w1.cell? ⟨w.heap.size, 1, none⟩ = some tv := X1.out.cell 1 rfl
    have x2 : w1.cell? ⟨w.heap.size, 2, none⟩ = some fv := X1.out.cell 2 rfl
    have x3 : w1.cell? ⟨w.heap.size, 3, none⟩ = some iv := X1.out.cell 3 rfl
    have x4 : w1.cell? ⟨w.heap.size, 4, none⟩ = some ov := X1.out.cell 4 rfl
    have x5 : w1.cell? ⟨w.heap.size, 5, none⟩ = some (.slice ca n cc) := X1.out.cell 5 rfl
    go_wp2_with fail
    refine (m23.out _ B1.out).mono ?_
    rintro e w2 ⟨g, g1, g2, rfl, hm2, b2, l0, l1, l2⟩
    have lz : w.heap.size + 1 < w1.heap.size := F1.out.lt
    have F2 := hide (F1.out.on b2 F1.out.lt)
    have B2 := hide (B1.out.trans (b2.mono B1.out.size))
    have q24 := hide (m24.out w2 g g1 g2 B2.out (by omega) (by omega) (by omega) hm2)
    have HL : Hid (w.heap.size + 1 < g ∧ w.heap.size + 1 < g1 ∧ w.heap.size + 1 < g2) := ⟨by omega, by omega, by omega⟩
    clear b2 hm2 l0 l1 l2 x0 x1 x2 x3 x4 x5 m23 m24
    cases R with
    | inl m =>
      go_wp2_with fail
      refine q24.out.mono ?_
      rintro e w3 ⟨rfl, hm3, k3⟩
      have F3 := hide (k3.ob F2.out ⟨by have := HL.out; omega, by have := HL.out; omega, by have := HL.out; omega⟩)
      have B3 := hide (B2.out.trans (k3.below (B := w.heap.size) ⟨by have := HL.out; omega, by have := HL.out; omega, by have := HL.out; omega⟩ B2.out.size))
      have M3 := hide hm3
      have u0 : w3.cell? ⟨w.heap.size + 1, 0, none⟩ = some (.int .i64 0) := F3.out.cell 0 rfl
      have u1 : w3.cell? ⟨w.heap.size + 1, 1, none⟩ = some (.int .i64 0) := F3.out.cell 1 rfl
      have v0 := F3.out.fr 0
      have v1 := F3.out.fr 1
      clear k3 hm3 q24
      go_wp2
      refine bodyPost_ret (results_tmp_row rfl _ _ (w.heap.size + 1) 45 #[.int .i64 0, .int .i64 0] (0, 0) _ _ rfl rfl ((F3.out.set 0 _).set 1 _) Tryd.underlying45 rfl (by kernel_rfl)) rfl ?_
      rw [HPQ.out]
      refine ⟨g, g1, g2, rfl, M3.out.but ((But.refl (w.heap.size + 1) _).set 0 _ |>.set 1 _) ⟨by have := HL.out; omega, by have := HL.out; omega, by have := HL.out; omega⟩, belowSet (belowSet B3.out (Nat.le_succ _) 0 _) (Nat.le_succ _) 1 _, by have := HL.out; omega, by have := HL.out; omega, by have := HL.out; omega⟩
    | inr q =>
      obtain ⟨q1, q2⟩ := q
      go_wp2_with fail
      refine q24.out.mono ?_
      rintro e w3 ⟨rfl, k3⟩
      have F3 := hide (k3.ob F2.out ⟨by have := HL.out; omega, by have := HL.out; omega, by have := HL.out; omega⟩)
      have B3 := hide (B2.out.trans (k3.below (B := w.heap.size) ⟨by have := HL.out; omega, by have := HL.out; omega, by have := HL.out; omega⟩ B2.out.size))
      have u0 : w3.cell? ⟨w.heap.size + 1, 0, none⟩ = some (.int .i64 0) := F3.out.cell 0 rfl
      have u1 : w3.cell? ⟨w.heap.size + 1, 1, none⟩ = some (.int .i64 0) := F3.out.cell 1 rfl
      have v0 := F3.out.fr 0
      have v1 := F3.out.fr 1
      clear k3 q24
      go_wp2
      refine bodyPost_ret (results_tmp_row rfl _ _ (w.heap.size + 1) 45 #[.int .i64 q1, .int .i64 q2] (0, 0) _ _ rfl rfl ((F3.out.set 0 _).set 1 _) Tryd.underlying45 rfl (by kernel_rfl)) rfl ?_
      rw [HPQ.out]
      exact ⟨_, rfl, belowSet (belowSet B3.out (Nat.le_succ _) 0 _) (Nat.le_succ _) 1 _⟩
  · have hW : walkP x = .inr (chkP x) := by unfold walkP; rw [if_neg h0]
    have hb2 : ((chkP x).2 != 0) = true := by simpa using h0
    rw [hW]
    obtain ⟨n, hn⟩ : ∃ n, n = x.cd.length := ⟨_, rfl⟩
    rw [← hn] at m15 X0 ⊢
    obtain ⟨Z, hZ⟩ : ∃ Z, Z = chkP x := ⟨_, rfl⟩
    rw [← hZ] at m15 hb2 ⊢
    clear hZ h0 hW
    obtain ⟨q1, q2⟩ := Z
    obtain ⟨PQ, hPQ⟩ : ∃ PQ, PQ = WQ [nm, tv, fv, iv, ov, .slice ca n cc] n w (.inr (q1, q2)) := ⟨_, rfl⟩
    have HPQ := hide hPQ
    rw [← hPQ]
    have hb2 : (q2 != 0) = true := hb2
    clear hg htz hx hcap hl hn hPQ
    go_enter Tryd.func17, Tryd.ntmps17
    go_wp2_with fail
    refine (m15.out _ (HB.out _ _)).mono ?_
    rintro e w1 ⟨rfl, b1⟩
    have F1 := hide ((F0.out _).on b1 (by simp))
    have B1 := hide ((HB.out _ _).trans (b1.mono (by simp; omega)))
    clear b1 m15
    have u0 : w1.cell? ⟨w.heap.size + 1, 0, none⟩ = some (.int .i64 0) := F1.out.cell 0 rfl
    have u1 : w1.cell? ⟨w.heap.size + 1, 1, none⟩ = some (.int .i64 0) := F1.out.cell 1 rfl
    have v0 := F1.out.fr 0
    have v1 := F1.out.fr 1
    go_wp2
    refine bodyPost_ret (results_tmp_row rfl _ _ (w.heap.size + 1) 45 #[.int .i64 q1, .int .i64 q2] (0, 0) _ _ rfl rfl ((F1.out.set 0 _).set 1 _) Tryd.underlying45 rfl (by kernel_rfl)) rfl ?_
    rw [HPQ.out]
    exact ⟨_, rfl, belowSet (belowSet B1.out (Nat.le_succ _) 0 _) (Nat.le_succ _) 1 _⟩
/-! the package's calls -/
def errR (R : Vs ⊕ (Int × Int)) : Int × Int := match R with | .inl _ => (0, 0) | .inr q => q
theorem errP_R (x : Img) : errP x = errR (walkP x) := rfl
theorem WQ.at {xs : List Value} {n : Nat} {w : World} {R : Vs ⊕ (Int × Int)} {e : Ending} {w' : World} (h : WQ xs n w R e w') : ∃ p, e = .returned (.tuple #[.pointer p, .agg #[.int .i64 (errR R).1, .int .i64 (errR R).2]]) ∧ Below w.heap.size w w' := by
  cases R with
  | inl m => obtain ⟨g, _, _, h1, _, h2, _⟩ := h; exact ⟨_, h1, h2⟩
  | inr q => exact h
set_option maxRecDepth 100000 in
set_option maxHeartbeats 1600000 in
theorem vcheck_any (nm tv fv iv ov cv : Value) (x : Img) (w : World) (hg : GlC w) (htz : Tz w) (hx : Im w nm tv fv iv ov cv x) (hcap : ∀ a n c, tv = .slice a n c → n ≤ c) (hl : ImL x) :
    Calls Tryd.prog 7 #[.agg #[nm, tv, fv, iv, ov, cv]] w fun e w' => e = .returned (.tuple #[.int .i64 (errP x).1, .int .i64 (errP x).2]) ∧ Below w.heap.size w w' := by
  have HB : Hid (∀ A, Below w.heap.size w (w.alloc A)) := fun A => (Below.refl _ _).alloc (Nat.le_refl _) _
  have m17 : Hid (∀ W, Below w.heap.size w W → Calls Tryd.prog 17 #[.agg #[nm, tv, fv, iv, ov, cv]] W fun e w' => ∃ p, e = .returned (.tuple #[.pointer p, .agg #[.int .i64 (errP x).1, .int .i64 (errP x).2]]) ∧ Below W.heap.size W w') := fun W hb =>
    (walked_any nm tv fv iv ov cv x W (hg.on hb hg.lt) (htz.on hb htz.lt) (hx.on hb) hcap hl).mono fun _ _ h => h.at
  clear hg htz hx hcap hl
  generalize errP x = q at *
  obtain ⟨q1, q2⟩ := q
  go_enter Tryd.func7, Tryd.ntmps7
  go_wp2_with (go_at_call 17; refine (m17.out _ (HB.out _)).mono ?_; rintro e w1 ⟨p, rfl, b1⟩; have B1 := hide ((HB.out _).trans (b1.mono (by simp))); clear b1)
  go_quiet (fail)
  go_wp2
  go_ret2
  exact ⟨rfl, below_drewN (B1.out.alloc B1.out.size _) _⟩
set_option maxRecDepth 100000 in
set_option maxHeartbeats 1600000 in
theorem vdeep_any (nm tv fv iv ov cv : Value) (x : Img) (w : World) (hg : GlC w) (htz : Tz w) (hx : Im w nm tv fv iv ov cv x) (hcap : ∀ a n c, tv = .slice a n c → n ≤ c) (hl : ImL x) :
    Calls Tryd.prog 9 #[.agg #[nm, tv, fv, iv, ov, cv]] w fun e w' => e = .returned (.tuple #[.int .i64 (deepP x).1, .int .i64 (deepP x).2]) ∧ Below w.heap.size w w' := by
  have HB : Hid (∀ A, Below w.heap.size w (w.alloc A)) := fun A => (Below.refl _ _).alloc (Nat.le_refl _) _
  have m17 : Hid (∀ W, Below w.heap.size w W → Calls Tryd.prog 17 #[.agg #[nm, tv, fv, iv, ov, cv]] W fun e w' => WQ [nm, tv, fv, iv, ov, cv] x.cd.length W (walkP x) e w') := fun W hb =>
    walked_any nm tv fv iv ov cv x W (hg.on hb hg.lt) (htz.on hb htz.lt) (hx.on hb) hcap hl
  have HD : Hid (deepP x = match walkP x with | .inl m => ((m.dp : Int), 0) | .inr e => (0, e.2)) := rfl
  have hne : ∀ q, walkP x = .inr q → (q.2 != 0) = true := fun q hq => walk_err hq
  cases hw : walkP x with
  | inl m =>
    rw [hw] at m17 HD
    rw [HD.out]
    clear hg htz hx hcap hl hw HD hne
    go_enter Tryd.func9, Tryd.ntmps9
    go_wp2_with (go_at_call 17; refine (m17.out _ (HB.out _)).mono ?_; rintro e w1 ⟨g, g1, g2, rfl, hm, b1, l0, l1, l2⟩; have B1 := hide ((HB.out _).trans (b1.mono (by simp))); have hlt := hm.ob.lt; have c72 : ∀ A, (w1.alloc A).cell? ⟨g, 72, none⟩ = some (.int .i64 (m.dp : Int)) := (fun A => (World.cell?_alloc_lt _ _ ⟨g, 72, none⟩ hlt).trans (hm.ob.cell 72 (encW_dp (by rfl) _ _))); clear b1 hm l0 l1 l2)
    go_ret2
    exact ⟨rfl, B1.out.alloc B1.out.size _⟩
  | inr q =>
    have hb := hne q hw
    rw [hw] at m17 HD
    rw [HD.out]
    clear hg htz hx hcap hl hw HD hne
    obtain ⟨q1, q2⟩ := q
    have hb : (q2 != 0) = true := hb
    go_enter Tryd.func9, Tryd.ntmps9
    go_wp2_with (go_at_call 17; refine (m17.out _ (HB.out _)).mono ?_; rintro e w1 ⟨p, rfl, b1⟩; have B1 := hide ((HB.out _).trans (b1.mono (by simp))); clear b1)
    go_quiet (fail)
    go_wp2
    go_ret2
    exact ⟨rfl, below_drewN (B1.out.alloc B1.out.size _) _⟩
set_option maxRecDepth 100000 in
set_option maxHeartbeats 1600000 in
theorem vreached_any (nm tv fv iv ov cv : Value) (x : Img) (w : World) (hg : GlC w) (htz : Tz w) (hx : Im w nm tv fv iv ov cv x) (hcap : ∀ a n c, tv = .slice a n c → n ≤ c) (hl : ImL x) :
    Calls Tryd.prog 11 #[.agg #[nm, tv, fv, iv, ov, cv]] w fun e w' => ∃ v, e = .returned (.tuple #[v, .int .i64 (rchP x).2]) ∧ Below w.heap.size w w' ∧ (((rchP x).1 = [] ∧ v = .slice none 0 0) ∨ ∃ g, w.heap.size ≤ g ∧ v = .slice (some ⟨g, 0, none⟩) (rchP x).1.length (rchP x).1.length ∧ Ob w' g 4 ((rchP x).1.map Value.bool)) := by
  have HB : Hid (∀ A, Below w.heap.size w (w.alloc A)) := fun A => (Below.refl _ _).alloc (Nat.le_refl _) _
  have m17 : Hid (∀ W, Below w.heap.size w W → Calls Tryd.prog 17 #[.agg #[nm, tv, fv, iv, ov, cv]] W fun e w' => WQ [nm, tv, fv, iv, ov, cv] x.cd.length W (walkP x) e w') := fun W hb =>
    walked_any nm tv fv iv ov cv x W (hg.on hb hg.lt) (htz.on hb htz.lt) (hx.on hb) hcap hl
  have HD : Hid (rchP x = match walkP x with | .inl m => (rchL m, 0) | .inr e => ([], e.2)) := rfl
  have hne : ∀ q, walkP x = .inr q → (q.2 != 0) = true := fun q hq => walk_err hq
  obtain ⟨n, hn⟩ : ∃ n, n = x.cd.length := ⟨_, rfl⟩
  rw [← hn] at m17
  cases hw : walkP x with
  | inl m =>
    rw [hw] at m17 HD
    rw [HD.out]
    clear hg htz hx hcap hl hw HD hne hn
    go_enter Tryd.func11, Tryd.ntmps11
    go_wp2_with (go_at_call 17; refine (m17.out _ (HB.out _)).mono ?_; rintro e w1 ⟨g, g1, g2, rfl, hm, b1, l0, l1, l2⟩; have B1 := hide ((HB.out _).trans (b1.mono (by simp))); have hlt := hm.ob.lt; have R1 := hide hm.rch; have L1 : Hid (w.heap.size ≤ g1 ∧ (rchL m).length = n) := ⟨(by simp at l1; omega), (by simp [rchL, hm.good.rs])⟩; have c6 : ∀ A, (w1.alloc A).cell? ⟨g, 6, none⟩ = some (.slice (some ⟨g1, 0, none⟩) n n) := (fun A => (World.cell?_alloc_lt _ _ ⟨g, 6, none⟩ hlt).trans (hm.ob.cell 6 (by rw [encW_x (by rfl) _ _ 6 (by omega)]; rfl))); clear b1 hm l0 l1 l2)
    go_ret2
    refine ⟨_, rfl, B1.out.alloc B1.out.size _, .inr ⟨g1, L1.out.1, ?_, ?_⟩⟩
    · show Value.slice _ n n = .slice _ (rchL m).length (rchL m).length
      rw [L1.out.2]
    · have e : (rchL m).map Value.bool = rchC m.rs := by unfold rchL rchC; rw [List.map_map]; rfl
      show Ob _ g1 4 ((rchL m).map Value.bool)
      rw [e]
      exact R1.out.on ((Below.refl _ _).alloc (Nat.le_refl _) _) R1.out.lt
  | inr q =>
    have hb := hne q hw
    rw [hw] at m17 HD
    rw [HD.out]
    clear hg htz hx hcap hl hw HD hne hn
    obtain ⟨q1, q2⟩ := q
    have hb : (q2 != 0) = true := hb
    go_enter Tryd.func11, Tryd.ntmps11
    go_wp2_with (go_at_call 17; refine (m17.out _ (HB.out _)).mono ?_; rintro e w1 ⟨p, rfl, b1⟩; have B1 := hide ((HB.out _).trans (b1.mono (by simp))); clear b1)
    go_quiet (fail)
    go_wp2
    go_ret2
    exact ⟨_, rfl, below_drewN (B1.out.alloc B1.out.size _) _, .inl ⟨by first | trivial | rfl, rfl⟩⟩
end Go.Proofs.YtlckedionmgjjaaDoor
namespace Go.Proofs.YtlckedionmgjjaaDoor
open Go.RowKit
theorem whole_any (t : Int) (w : World) : Calls Tryd.prog 41 #[.int .i64 t] w fun e w' => e = .returned (.bool (t == 2 || t == 3)) ∧ w' = w := by
  go_enter Tryd.func41, Tryd.ntmps41
  by_cases h2 : t = 2
  · subst h2
    go_wp2
    go_ret
    exact ⟨rfl, rfl⟩
  · have b2 : (t == 2) = false := by simpa using h2
    by_cases h3 : t = 3
    · subst h3
      go_wp2
      go_ret
      exact ⟨rfl, rfl⟩
    · have b3 : (t == 3) = false := by simpa using h3
      go_wp2
      go_ret
      exact ⟨by rw [b2, b3]; rfl, rfl⟩
set_option maxHeartbeats 1600000 in
theorem sameR_any (u v : Value) (a b : List Int) (w : World) (hu : ILst w u a) (hv : ILst w v b) (hna : a.length ≤ 4096) : Calls Tryd.prog 43 #[u, v] w fun e w' => e = .returned (.bool (decide (a = b))) ∧ ∃ d, w' = w.drewN d := by
  obtain ⟨ua, ub, uoff, ucap, rfl, huA, huI⟩ := hu
  obtain ⟨va, vb, voff, vcap, rfl, hvA, hvI⟩ := hv
  obtain ⟨R, hR⟩ : ∃ R, R = decide (a = b) := ⟨_, rfl⟩
  rw [← hR]
  have HR := hide hR
  by_cases hl : a.length = b.length
  · have HUA := hide huA
    have HUI := hide huI
    have HVA := hide hvA
    have HVI := hide hvI
    have HL := hide hl
    rw [← hl]
    obtain ⟨n, hn⟩ : ∃ n, n = a.length := ⟨_, rfl⟩
    have HN := hide hn
    rw [← hn]
    have n9 : (n : Int) ≤ 4096 := by omega
    clear huA huI hvA hvI hl hn hR hna
    go_enter Tryd.func43, Tryd.ntmps43
    have e0 : ((n : Int) != (n : Int)) = false := by simp
    go_wp2
    clear e0
    go_loopw [5] (fun i wr => ∃ k : Nat, k ≤ n ∧ i = .int .i64 (k : Int) ∧ Hid ((∀ j, j < k → a[j]? = b[j]?) ∧ ∃ d, wr = w.drewN d)) (fun i _ => n - (intOf i).toNat)
    case atStart => exact ⟨0, by omega, rfl, fun j hj => absurd hj (by omega), 0, rfl⟩
    case round =>
      obtain ⟨k, hk, rfl, hh⟩ := hrel
      obtain ⟨hno, d, rfl⟩ := hh.out
      have HNO := hide hno
      clear hh hno
      have k0 : (0 : Int) ≤ (k : Int) := by omega
      by_cases hlt : k < n
      · have j1 : (k : Int) < (n : Int) := by omega
        obtain ⟨x, hx⟩ : ∃ x, a[k]? = some x := ⟨_, List.getElem?_eq_getElem (by rw [← HN.out]; exact hlt)⟩
        obtain ⟨y, hy⟩ : ∃ y, b[k]? = some y := ⟨_, List.getElem?_eq_getElem (by rw [← HL.out, ← HN.out]; exact hlt)⟩
        have cx := HUI.out k x hx
        have cy := HVI.out k y hy
        obtain ⟨_, eu⟩ := HUA.out (by rw [← HN.out]; omega)
        obtain ⟨_, ev⟩ := HVA.out (by rw [← HL.out, ← HN.out]; omega)
        rw [eu, ev]
        by_cases he : x = y
        · subst he
          have hb : (x != x) = false := by simp
          have HNX : Hid (∀ j, j < k + 1 → a[j]? = b[j]?) := fun j hj => by
            by_cases e : j = k
            · rw [e, hx, hy]
            · exact HNO.out j (by omega)
          clear hx hy
          go_wp2_with fail
          go_quiet (fail)
          go_wp2
          go_roundw
          case rel => exact ⟨k + 1, by omega, by go_num, HNX.out, _, rfl⟩
          case measure => simp [intOf]; omega
        · have hb : (x != y) = true := by simpa using he
          have HF : Hid (R = false) := by
            show _ = _
            rw [HR.out]
            exact decide_eq_false fun e => he (by rw [e, hy] at hx; exact (Option.some.inj hx).symm)
          clear hx hy
          go_wp2_with fail
          go_quiet (fail)
          go_wp2
          go_ret
          exact ⟨ret_b HF.out.symm, _, by simp only [World.drewN, Nat.add_assoc]; rfl⟩
      · have j1 : ¬ (k : Int) < (n : Int) := by omega
        have HT : Hid (R = true) := by
          show _ = _
          rw [HR.out]
          refine decide_eq_true (List.ext_getElem? fun j => ?_)
          by_cases hj : j < k
          · exact HNO.out j hj
          · rw [List.getElem?_eq_none (by rw [← HN.out]; omega), List.getElem?_eq_none (by rw [← HL.out, ← HN.out]; omega)]
        go_wp2
        go_ret
        exact ⟨ret_b HT.out.symm, _, rfl⟩
  · have HF : Hid (R = false) := by
      show _ = _
      rw [HR.out]
      exact decide_eq_false fun e => hl (by rw [e])
    have e0 : ((a.length : Int) != (b.length : Int)) = true := by simp; omega
    clear huA huI hvA hvI
    go_enter Tryd.func43, Tryd.ntmps43
    go_wp2
    go_ret
    exact ⟨ret_b HF.out.symm, 0, rfl⟩
/-- the first that waits, or none -/
def FirstOne (l : List Int) (r : Int) : Prop := (∃ k : Nat, r = (k : Int) ∧ l[k]? = some 1 ∧ ∀ j : Nat, j < k → l[j]? ≠ some 1) ∨ (r = -1 ∧ ∀ j : Nat, l[j]? ≠ some 1)
set_option maxHeartbeats 1600000 in
theorem leastR_any (g : Nat) (v : Value) (l : List Int) (w : World) (hc : w.cell? ⟨g, 7, none⟩ = some v) (hv : ILst w v l) (hnl : l.length ≤ 4096) : Calls Tryd.prog 26 #[.pointer (some ⟨g, 0, none⟩)] w fun e w' => ∃ r, e = .returned (.int .i64 r) ∧ FirstOne l r ∧ ∃ d, w' = w.drewN d := by
  obtain ⟨va, vb, voff, vcap, rfl, hvA, hvI⟩ := hv
  have HVA := hide hvA
  have HVI := hide hvI
  obtain ⟨n, hn⟩ : ∃ n, n = l.length := ⟨_, rfl⟩
  have HN := hide hn
  rw [← hn] at hc
  have n9 : (n : Int) ≤ 4096 := by omega
  clear hvA hvI hn hnl
  go_enter Tryd.func26, Tryd.ntmps26
  go_wp2
  go_loopw [3] (fun i wr => ∃ k : Nat, k ≤ n ∧ i = .int .i64 (k : Int) ∧ Hid ((∀ j, j < k → l[j]? ≠ some 1) ∧ ∃ d, wr = w.drewN d)) (fun i _ => n - (intOf i).toNat)
  case atStart => exact ⟨0, by omega, rfl, fun j hj => absurd hj (by omega), 0, rfl⟩
  case round =>
    obtain ⟨k, hk, rfl, hh⟩ := hrel
    obtain ⟨hno, d, rfl⟩ := hh.out
    have HNO := hide hno
    clear hh hno
    have k0 : (0 : Int) ≤ (k : Int) := by omega
    by_cases hlt : k < n
    · have j1 : (k : Int) < (n : Int) := by omega
      obtain ⟨x, hx⟩ : ∃ x, l[k]? = some x := ⟨_, List.getElem?_eq_getElem (by rw [← HN.out]; exact hlt)⟩
      have cx := HVI.out k x hx
      obtain ⟨_, ev⟩ := HVA.out (by rw [← HN.out]; omega)
      rw [ev] at hc
      by_cases he : x = 1
      · subst he
        have HX := hide hx
        clear hx
        go_wp2
        go_ret
        exact ⟨_, rfl, Or.inl ⟨k, rfl, HX.out, HNO.out⟩, _, rfl⟩
      · have hb : (x == 1) = false := by simpa using he
        have HNX : Hid (∀ j, j < k + 1 → l[j]? ≠ some 1) := fun j hj => by
          by_cases e : j = k
          · rw [e, hx]; exact fun h => he (Option.some.inj h)
          · exact HNO.out j (by omega)
        clear hx
        go_wp2
        go_roundw
        case rel => exact ⟨k + 1, by omega, by go_num, HNX.out, _, rfl⟩
        case measure => simp [intOf]; omega
    · have j1 : ¬ (k : Int) < (n : Int) := by omega
      go_wp2
      go_ret
      refine ⟨_, rfl, Or.inr ⟨rfl, fun j => ?_⟩, _, rfl⟩
      by_cases hj : j < k
      · exact HNO.out j hj
      · rw [List.getElem?_eq_none (by rw [← HN.out]; omega)]; simp
/-- where an instruction goes on, as the document lists it -/
def goesI (at' : Int) (i : Ins) : List Int := if i.op = 9 then [i.a] else if i.op = 10 then [at' + 1, i.a] else if i.op = 12 then [] else [at' + 1]
theorem ILst.fresh {W : World} (l : List Int) {g n c : Nat} {cs : Array Value} (hg : g = W.heap.size) (hn : n = l.length) (hc : cs = (intC l).toArray) : ILst (W.alloc (.cells cs 3)) (.slice (some ⟨g, 0, none⟩) n c) l := by
  subst hg hn hc
  exact ⟨_, W.heap.size, 0, c, rfl, fun _ => ⟨by simp, rfl⟩, fun i x hx => (Lib.cell_of_heap (j := 0 + i) (heap_alloc_new W _)).trans (by simp [intC, hx])⟩
set_option maxHeartbeats 1600000 in
theorem goesR_any (k : Nat) (i : Ins) (w : World) (hk : k ≤ 4096) : Calls Tryd.prog 42 #[.int .i64 (k : Int), inA i] w fun e w' => ∃ v, e = .returned v ∧ ILst w' v (goesI k i) ∧ Below w.heap.size w w' := by
  obtain ⟨op, a, b, n⟩ := i
  have k9 : (k : Int) ≤ 4096 := by omega
  have k0 : (0 : Int) ≤ (k : Int) := by omega
  have HB1 : Hid (∀ A, Below w.heap.size w (w.alloc A)) := fun A => (Below.refl _ _).alloc (Nat.le_refl _) _
  unfold inA
  go_enter Tryd.func42, Tryd.ntmps42
  by_cases h9 : op = 9
  · subst h9
    go_wp2
    go_ret
    have E : goesI k ⟨9, a, b, n⟩ = [a] := by simp [goesI]
    rw [E]
    exact ⟨_, rfl, ILst.fresh [a] (by simp) rfl rfl, (HB1.out _).alloc (by simp) _⟩
  · have b9 : (op == 9) = false := by simpa using h9
    by_cases h10 : op = 10
    · subst h10
      go_wp2
      go_ret
      have E : goesI k ⟨10, a, b, n⟩ = [(k : Int) + 1, a] := by simp [goesI]
      rw [E]
      exact ⟨_, rfl, ILst.fresh [(k : Int) + 1, a] (by simp) rfl rfl, (HB1.out _).alloc (by simp) _⟩
    · have b10 : (op == 10) = false := by simpa using h10
      by_cases h12 : op = 12
      · subst h12
        go_wp2
        go_ret
        have E : goesI k ⟨12, a, b, n⟩ = [] := by simp [goesI]
        rw [E]
        exact ⟨_, rfl, ILst.nil _ _, HB1.out _⟩
      · have b12 : (op == 12) = false := by simpa using h12
        have E : goesI k ⟨op, a, b, n⟩ = [(k : Int) + 1] := by unfold goesI; rw [if_neg h9, if_neg h10, if_neg h12]
        rw [E]
        clear E
        go_wp2
        go_ret
        exact ⟨_, rfl, ILst.fresh [(k : Int) + 1] (by simp) rfl rfl, (HB1.out _).alloc (by simp) _⟩
end Go.Proofs.YtlckedionmgjjaaDoor
