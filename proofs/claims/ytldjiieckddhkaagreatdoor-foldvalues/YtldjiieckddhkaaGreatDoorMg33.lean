/- NaP | NbP | AsP -/
import Derived.Test.YtldjiieckddhkaaGreatDoorMg7
import Derived.Test.YtldjiieckddhkaaGreatDoorMg4
namespace Go.Proofs.YtldjiieckddhkaaGreatDoor
def nmL (x : List Pt) : List Bs := (x.map Pt.s).filter (fun s => decide (s ≠ []))
theorem nmL_app (a b : List Pt) : nmL (a ++ b) = nmL a ++ nmL b := by unfold nmL; rw [List.map_append, List.filter_append]
theorem fold_nm : ∀ (x : List Pt) (out : List Bs), x.foldl (fun out p => if p.s = [] then out else insN out p.s) out = (nmL x).foldl insN out
  | [], _ => rfl
  | p :: x, out => by
    have e : nmL (p :: x) = nmL [p] ++ nmL x := nmL_app [p] x
    rw [List.foldl_cons, fold_nm x, e, List.foldl_append]
    by_cases h : p.s = []
    · rw [if_pos h]
      have : nmL [p] = [] := by simp [nmL, h]
      rw [this]; rfl
    · rw [if_neg h]
      have : nmL [p] = [p.s] := by simp [nmL, h]
      rw [this]; rfl
theorem names_nm (x : List Pt) : namesP x = (nmL x).foldl insN [] := fold_nm x []
theorem give1_s (t : Int) (p : Pt) : (give1 t p).s = p.s := by
  unfold give1
  split <;> rfl
theorem giveT_nm (t : Int) : ∀ e : Ex, nmL (flat (giveT t e)) = nmL (flat e)
  | .leaf p => by
    show nmL [give1 t p] = nmL [p]
    unfold nmL
    rw [List.map_singleton, List.map_singleton, give1_s]
  | .one p e => by
    show nmL (flat (giveT t e) ++ [p]) = nmL (flat e ++ [p])
    rw [nmL_app, nmL_app, giveT_nm t e]
  | .two p a b => by
    show nmL (flat (giveT t a) ++ (flat (giveT t b) ++ [p])) = nmL (flat a ++ (flat b ++ [p]))
    rw [nmL_app, nmL_app, nmL_app, nmL_app, giveT_nm t a, giveT_nm t b]
theorem giveT_len (t : Int) : ∀ e : Ex, (flat (giveT t e)).length = (flat e).length
  | .leaf p => rfl
  | .one p e => by
    show (flat (giveT t e) ++ [p]).length = (flat e ++ [p]).length
    rw [List.length_append, List.length_append, giveT_len t e]
  | .two p a b => by
    show (flat (giveT t a) ++ (flat (giveT t b) ++ [p])).length = (flat a ++ (flat b ++ [p])).length
    simp only [List.length_append, giveT_len t a, giveT_len t b]
theorem resE_nm (vs : List Vr) : ∀ e : Ex, nmL (flat (resE vs e)) = nmL (flat e)
  | .leaf p => rfl
  | .one p a => by
    show nmL (flat (if _ then giveT _ (resE vs a) else resE vs a) ++ [p]) = nmL (flat a ++ [p])
    rw [nmL_app, nmL_app]
    congr 1
    split
    · rw [giveT_nm, resE_nm vs a]
    · exact resE_nm vs a
  | .two p a b => by
    show nmL (flat (if _ then giveT _ (resE vs a) else resE vs a) ++ (flat (if _ then giveT _ (resE vs b) else resE vs b) ++ [p])) = nmL (flat a ++ (flat b ++ [p]))
    rw [nmL_app, nmL_app, nmL_app, nmL_app]
    congr 1
    · split
      · rw [giveT_nm, resE_nm vs a]
      · exact resE_nm vs a
    · congr 1
      split
      · rw [giveT_nm, resE_nm vs b]
      · exact resE_nm vs b
theorem resE_len (vs : List Vr) : ∀ e : Ex, (flat (resE vs e)).length = (flat e).length
  | .leaf p => rfl
  | .one p a => by
    show (flat (if _ then giveT _ (resE vs a) else resE vs a) ++ [p]).length = (flat a ++ [p]).length
    rw [List.length_append, List.length_append]
    congr 1
    split
    · rw [giveT_len, resE_len vs a]
    · exact resE_len vs a
  | .two p a b => by
    show (flat (if _ then giveT _ (resE vs a) else resE vs a) ++ (flat (if _ then giveT _ (resE vs b) else resE vs b) ++ [p])).length = (flat a ++ (flat b ++ [p])).length
    simp only [List.length_append]
    congr 1
    · split
      · rw [giveT_len, resE_len vs a]
      · exact resE_len vs a
    · congr 1
      split
      · rw [giveT_len, resE_len vs b]
      · exact resE_len vs b
theorem endE_nm (vs : List Vr) (e : Ex) (t : Int) : namesP (flat (endE vs e t)) = namesP (flat e) := by
  rw [names_nm, names_nm]
  congr 1
  unfold endE kid
  split
  · rw [giveT_nm, resE_nm]
  · exact resE_nm vs e
theorem endE_len (vs : List Vr) (e : Ex) (t : Int) : (flat (endE vs e t)).length = (flat e).length := by
  unfold endE kid
  split
  · rw [giveT_len, resE_len]
  · exact resE_len vs e
theorem reck_s {p q : Pt} {on : List Pt} (hm : mayP p = true) (h : reckP p on = some q) : p.s = [] ∧ q.s = [] ∧ q.kind = 1 := by
  have hk : p.kind = 5 ∨ p.kind = 6 := by
    rcases reck_form h with ⟨h1, -⟩ | ⟨h1, -⟩
    · exact .inr h1
    · exact .inl h1
  have hq : q.s = [] ∧ q.kind = 1 := by
    rcases reck_form h with ⟨-, a, r, -, -, rfl⟩ | ⟨-, h2⟩
    · exact ⟨rfl, rfl⟩
    · rcases h2 with ⟨a, -, -, rfl⟩ | ⟨a, b, r, -, -, rfl⟩
      · exact ⟨rfl, rfl⟩
      · exact ⟨rfl, rfl⟩
  refine ⟨?_, hq⟩
  unfold mayP at hm
  rcases hk with hk | hk <;> rw [hk] at hm <;> simp at hm
  · exact hm.1
  · exact hm.1
theorem num_s {p : Pt} (hk : p.kind = 1) (hm : mayP p = true) : p.s = [] := (mayp_num hk hm).1
theorem foldE_nm : ∀ {e : Ex}, well e → InT (fun p => p.s = []) (foldE e) ∧ nmL (flat (foldE e)) = nmL (flat e) ∧ (flat (foldE e)).length ≤ (flat e).length
  | .leaf p, h => ⟨fun hk => num_s hk h.2, rfl, Nat.le_refl _⟩
  | .one p a, h => by
    obtain ⟨i1, i2, i3⟩ := foldE_nm h.2.2
    have keep : InT (fun p => p.s = []) (.one p (foldE a)) ∧ nmL (flat (.one p (foldE a))) = nmL (flat (.one p a)) ∧ (flat (.one p (foldE a))).length ≤ (flat (.one p a)).length := by
      refine ⟨i1, ?_, ?_⟩
      · show nmL (flat (foldE a) ++ [p]) = nmL (flat a ++ [p])
        rw [nmL_app, nmL_app, i2]
      · show (flat (foldE a) ++ [p]).length ≤ (flat a ++ [p]).length
        rw [List.length_append, List.length_append]; omega
    rw [foldE]
    cases hn : numOf (foldE a) with
    | none => exact keep
    | some n =>
      cases hr : reckP p [n] with
      | none => simp only [hr]; exact keep
      | some q =>
        simp only [hr]
        obtain ⟨s1, s2, s3⟩ := reck_s h.2.1 hr
        obtain ⟨e1, e2⟩ := num_of hn
        rw [e1] at i1 i2
        have hns : n.s = [] := i1 e2
        refine ⟨fun _ => s2, ?_, ?_⟩
        · show nmL [q] = nmL (flat a ++ [p])
          rw [nmL_app, ← i2]
          show nmL [q] = nmL [n] ++ nmL [p]
          simp [nmL, s1, s2, hns]
        · show 1 ≤ (flat a ++ [p]).length
          rw [List.length_append]; simp
  | .two p a b, h => by
    obtain ⟨i1, i2, i3⟩ := foldE_nm h.2.2.1
    obtain ⟨j1, j2, j3⟩ := foldE_nm h.2.2.2
    have keep : InT (fun p => p.s = []) (.two p (foldE a) (foldE b)) ∧ nmL (flat (.two p (foldE a) (foldE b))) = nmL (flat (.two p a b)) ∧ (flat (.two p (foldE a) (foldE b))).length ≤ (flat (.two p a b)).length := by
      refine ⟨⟨i1, j1⟩, ?_, ?_⟩
      · show nmL (flat (foldE a) ++ (flat (foldE b) ++ [p])) = nmL (flat a ++ (flat b ++ [p]))
        rw [nmL_app, nmL_app, nmL_app, nmL_app, i2, j2]
      · show (flat (foldE a) ++ (flat (foldE b) ++ [p])).length ≤ (flat a ++ (flat b ++ [p])).length
        simp only [List.length_append]; omega
    rw [foldE]
    cases hn : numOf (foldE a) with
    | none => exact keep
    | some n =>
      cases hm : numOf (foldE b) with
      | none => exact keep
      | some m =>
        cases hr : reckP p [n, m] with
        | none => simp only [hr]; exact keep
        | some q =>
          simp only [hr]
          obtain ⟨s1, s2, s3⟩ := reck_s h.2.1 hr
          obtain ⟨e1, e2⟩ := num_of hn
          obtain ⟨f1, f2⟩ := num_of hm
          rw [e1] at i1 i2
          rw [f1] at j1 j2
          have hns : n.s = [] := i1 e2
          have hms : m.s = [] := j1 f2
          refine ⟨fun _ => s2, ?_, ?_⟩
          · show nmL [q] = nmL (flat a ++ (flat b ++ [p]))
            rw [nmL_app, nmL_app, ← i2, ← j2]
            show nmL [q] = nmL [n] ++ (nmL [m] ++ nmL [p])
            simp [nmL, s1, s2, hns, hms]
          · show 1 ≤ (flat a ++ (flat b ++ [p])).length
            simp only [List.length_append]; simp; omega
end Go.Proofs.YtldjiieckddhkaaGreatDoor
namespace Go.Proofs.YtldjiieckddhkaaGreatDoor
theorem depths_flat : ∀ {e : Ex}, well e → ∀ (x : List Pt) (st : List Nat), depths (flat e ++ x) st = depths x (dep e :: st)
  | .leaf p, hw, x, st => by
    show depths (p :: x) st = _
    conv => lhs; unfold depths
    rw [if_pos hw.1]; rfl
  | .one p e, hw, x, st => by
    show depths ((flat e ++ [p]) ++ x) st = _
    rw [List.append_assoc, depths_flat hw.2.2]
    show depths (p :: x) (dep e :: st) = _
    conv => lhs; unfold depths
    rw [if_neg (by rw [hw.1]; decide), if_pos hw.1]; rfl
  | .two p a b, hw, x, st => by
    show depths ((flat a ++ (flat b ++ [p])) ++ x) st = _
    rw [List.append_assoc, depths_flat hw.2.2.1, List.append_assoc, depths_flat hw.2.2.2]
    show depths (p :: x) (dep b :: dep a :: st) = _
    conv => lhs; unfold depths
    rw [if_neg (by rw [hw.1]; decide), if_neg (by rw [hw.1]; decide)]; rfl
theorem may_flat : ∀ {e : Ex}, well e → ∀ p ∈ flat e, mayP p = true
  | .leaf p, hw, q, hq => by rw [flat, List.mem_singleton] at hq; rw [hq]; exact hw.2
  | .one p e, hw, q, hq => by
    rw [flat, List.mem_append, List.mem_singleton] at hq
    rcases hq with hq | rfl
    · exact may_flat (e := e) hw.2.2 q hq
    · exact hw.2.1
  | .two p a b, hw, q, hq => by
    rw [flat, List.mem_append, List.mem_append, List.mem_singleton] at hq
    rcases hq with hq | hq | rfl
    · exact may_flat (e := a) hw.2.2.1 q hq
    · exact may_flat (e := b) hw.2.2.2 q hq
    · exact hw.2.1
theorem check_flat {e : Ex} (hw : well e) (hd : dep e ≤ 24) (hl : (flat e).length ≤ 500) : checkP (flat e) = 0 := by
  have h := depths_flat hw [] []
  rw [List.append_nil] at h
  refine check_good (ds := [dep e]) (by omega) (fun i p hi => may_flat hw p (List.mem_of_getElem? hi)) ?_ rfl ?_
  · rw [h]; rfl
  · intro d hd'
    rw [List.mem_singleton.1 hd']
    exact ⟨dep_pos e, hd⟩
structure StayQ (vs : List Vr) (x a b : List Pt) (t : Int) : Prop where
  len_a : a.length = x.length
  len_b : b.length ≤ x.length
  fit_a : fitsP vs a t = 0
  fit_b : fitsP vs b t = 0
  res_a : resP vs a t = a
  res_b : resP vs b t = b
  fold_a : foldP a = b
  fold_b : foldP b = b
  num_a : ∀ p ∈ a, p.kind = 1 → fit6 p.t p.n = true
  num_b : ∀ p ∈ b, p.kind = 1 → fit6 p.t p.n = true
  chk_x : checkP x = 0
  chk_a : checkP a = 0
  chk_b : checkP b = 0
  nm_a : nmL a = nmL x
  nm_b : nmL b = nmL x
  ty_a : ∃ e, well e ∧ flat e = a ∧ evT (partK vs) e = .ok (kT t)
  ty_b : ∃ e, well e ∧ flat e = b ∧ evT (partK vs) e = .ok (kT t)
  ty : t ≠ 0
end Go.Proofs.YtldjiieckddhkaaGreatDoor
namespace Go.Proofs.YtldjiieckddhkaaGreatDoor
def idxE (vs : List Vr) (e : Ex) : Int := if fitsP vs (flat e) 2 = 0 then 2 else 3
def kTwo (vs : List Vr) (p : Pt) (a b : Ex) (t : Int) : Int :=
  if max (kt vs a).typ (kt vs b).typ = 0 then (if 9 ≤ p.n then 3 else t) else max (kt vs a).typ (kt vs b).typ
def askE (vs : List Vr) : Int → Ex → Ex
  | t, .leaf p => .leaf (if p.kind = 1 ∧ p.t = 0 then ⟨p.kind, p.s, p.f, p.n, t⟩ else p)
  | t, .one p e => .one p (askE vs (if p.kind = 3 then idxE vs e else if p.kind = 6 then 3 else t) e)
  | t, .two p a b => .two p (askE vs (kTwo vs p a b t) a) (askE vs (kTwo vs p a b t) b)
theorem bare_op {vs : List Vr} (hv : vOk vs) {p : Pt} {a b : Ex} {k : Kd} (hw : well (.two p a b)) (h : evT (partK vs) (.two p a b) = .ok k) (h0 : k.typ = 0) :
    ∃ u u', evT (partK vs) a = .ok u ∧ evT (partK vs) b = .ok u' ∧ u.typ = 0 ∧ u'.typ = 0 ∧ p.n ≤ 8 := by
  have hb := (bare hv hw h h0).1
  obtain ⟨u, u', hu, hu', hp⟩ := ev2_inv h
  obtain ⟨h5, hn⟩ := two_kind hw.1 hw.2.1
  rw [partK_five h5] at hp
  rcases opK_inv hp with ⟨hu0, hu0', -, rfl⟩ | ⟨hr, -, -, rfl, -⟩
  · exact ⟨u, u', hu, hu', hu0, hu0', hb.2.1.2⟩
  · have ht := tyOr_pos (l := u) (r := u') (fun h => (k_form hv hw.2.2.1 hu h).2) (fun h => (k_form hv hw.2.2.2 hu' h).2)
    have h0' : (Four.resN p.n (tyOr u (tyOr u' 3))).1 = 0 := h0
    rw [res_range (by omega) ht hr] at h0'
    split at h0' <;> omega
theorem bare_one {vs : List Vr} (hv : vOk vs) {p : Pt} {a : Ex} {k : Kd} (hw : well (.one p a)) (h : evT (partK vs) (.one p a) = .ok k) (h0 : k.typ = 0) :
    ∃ u, evT (partK vs) a = .ok u ∧ u.typ = 0 ∧ p.kind = 5 ∧ k = kWith u u := by
  obtain ⟨u, hu, hp⟩ := ev1_inv h
  rcases one_kind hv hw.1 hw.2.1 hp with ⟨h5, hn, hp⟩ | ⟨-, -, -, h9⟩ | ⟨-, -, rfl, h9⟩
  · rcases opK_inv hp with ⟨hu0, -, -, rfl⟩ | ⟨hr, -, -, rfl, -⟩
    · exact ⟨u, hu, hu0, h5, rfl⟩
    · have ht := tyOr_pos (l := u) (r := u) (fun h => (k_form hv hw.2.2 hu h).2) (fun h => (k_form hv hw.2.2 hu h).2)
      have h0' : (Four.resN p.n (tyOr u (tyOr u 3))).1 = 0 := h0
      rw [res_range (by omega) ht hr] at h0'
      split at h0' <;> omega
  · exact absurd h0 (by omega)
  · exact absurd (show p.t = 0 from h0) (by omega)
theorem ask_bare {vs : List Vr} (hv : vOk vs) (t : Int) : ∀ {e : Ex} {k : Kd}, well e → evT (partK vs) e = .ok k → k.typ = 0 → askE vs t e = giveT t e
  | .leaf p, k, hw, h, h0 => by
    have hb := (bare hv hw h h0).1
    rw [askE, if_pos ⟨hb.1, hb.2⟩, giveT, give1, if_pos hb.1]
  | .one p a, k, hw, h, h0 => by
    obtain ⟨u, hu, hu0, h5, -⟩ := bare_one hv hw h h0
    rw [askE, if_neg (by omega), if_neg (by omega), ask_bare hv t hw.2.2 hu hu0]; rfl
  | .two p a b, k, hw, h, h0 => by
    obtain ⟨u, u', hu, hu', hu0, hu0', h8⟩ := bare_op hv hw h h0
    have e : kTwo vs p a b t = t := by
      unfold kTwo
      rw [kt_ok hu, kt_ok hu', hu0, hu0', if_pos (by decide), if_neg (by omega)]
    rw [askE, e, ask_bare hv t hw.2.2.1 hu hu0, ask_bare hv t hw.2.2.2 hu' hu0']; rfl
theorem bare_fits {vs : List Vr} (hv : vOk vs) (t : Int) : ∀ {e : Ex} {k : Kd}, well e → evT (partK vs) e = .ok k → k.typ = 0 → InT (fun p => fit6 t p.n = true) e → fit6 t k.lo = true ∧ fit6 t k.hi = true
  | .leaf p, k, hw, h, h0, hi => by
    rcases leaf_kind hv hw.1 hw.2 h with ⟨h1, h2, rfl⟩ | ⟨-, h⟩
    · exact ⟨hi h1, hi h1⟩
    · exact absurd h0 (by omega)
  | .one p a, k, hw, h, h0, hi => by
    obtain ⟨u, hu, hu0, h5, rfl⟩ := bare_one hv hw h h0
    have ih := bare_fits hv t hw.2.2 hu hu0 hi
    refine ⟨?_, ?_⟩
    · show fit6 t (min u.lo u.lo) = true
      rw [Int.min_self]; exact ih.1
    · show fit6 t (max u.hi u.hi) = true
      rw [Int.max_self]; exact ih.2
  | .two p a b, k, hw, h, h0, hi => by
    obtain ⟨u, u', hu, hu', hu0, hu0', h8⟩ := bare_op hv hw h h0
    have ih := bare_fits hv t hw.2.2.1 hu hu0 hi.1
    have ih' := bare_fits hv t hw.2.2.2 hu' hu0' hi.2
    have hk : k = kWith u u' := by
      rw [ev2_mk hu hu', partK_five (two_kind hw.1 hw.2.1).1] at h
      rcases opK_inv h with ⟨-, -, -, e⟩ | ⟨hr, -, -, rfl, -⟩
      · exact e
      · obtain ⟨h5, hn⟩ := two_kind hw.1 hw.2.1
        have ht := tyOr_pos (l := u) (r := u') (fun h => (k_form hv hw.2.2.1 hu h).2) (fun h => (k_form hv hw.2.2.2 hu' h).2)
        have h0' : (Four.resN p.n (tyOr u (tyOr u' 3))).1 = 0 := h0
        rw [res_range (by omega) ht hr] at h0'
        split at h0' <;> omega
    subst hk
    refine ⟨?_, ?_⟩
    · show fit6 t (min u.lo u'.lo) = true
      have : min u.lo u'.lo = u.lo ∨ min u.lo u'.lo = u'.lo := by omega
      rcases this with e | e <;> rw [e]
      · exact ih.1
      · exact ih'.1
    · show fit6 t (max u.hi u'.hi) = true
      have : max u.hi u'.hi = u.hi ∨ max u.hi u'.hi = u'.hi := by omega
      rcases this with e | e <;> rw [e]
      · exact ih.2
      · exact ih'.2
theorem fits_sub {vs : List Vr} (hm : mayV vs = 0) {e : Ex} {k : Kd} (t : Int) (hw : well e) (h : evT (partK vs) e = .ok k) (hd : dep e ≤ 24) (hl : (flat e).length ≤ 500) (h3 : k.typ = 0 → kFits k 3 = 0) : fitsP vs (flat e) t = kFits k t := by
  unfold fitsP askP
  rw [if_neg (fun h => h hm), if_neg (fun h => h (check_flat hw hd hl))]
  unfold kindP
  rw [run_tree _ hw, h]
  show (match (if k.typ = 0 ∧ kFits k 3 ≠ 0 then (Except.error 1 : Except Int Kd) else .ok k) with | .error e => e | .ok k => kFits k t) = _
  rw [if_neg (fun h => h.2 (h3 h.1))]
theorem idx_same {vs : List Vr} (hm : mayV vs = 0) (hv : vOk vs) {e : Ex} {k : Kd} (hw : well e) (h : evT (partK vs) e = .ok k) (hd : dep e ≤ 24) (hl : (flat e).length ≤ 500) (h0 : k.typ = 0) (h3 : kFits k 3 = 0) : idxE vs e = idxT (flat e) := by
  unfold idxE
  rw [fits_sub hm 2 hw h hd hl (fun _ => h3)]
  obtain ⟨hb, hi, -⟩ := bare hv hw h h0
  by_cases h2 : kFits k 2 = 0
  · rw [if_pos h2]
    rcases kFits_inv h2 with ⟨h, -⟩ | ⟨-, hT, hlo, hhi⟩
    · exact absurd h0 h
    · unfold idxT
      rw [if_pos]
      rw [List.all_eq_true]
      intro p hp
      by_cases hk : p.kind = 1
      · have := flat_in hw hi p hp hk
        rw [fit_mid hT hlo hhi this.1 this.2, Bool.or_true]
      · rw [decide_eq_false hk]; rfl
  · rw [if_neg h2]
    rcases idx_fits (l := flat e) with ⟨-, hall⟩ | e3
    · have hf := bare_fits hv 2 hw h h0 (in_flat hall)
      exfalso; apply h2
      unfold kFits
      rw [if_neg (fun h => h.1 h0), if_neg (by omega), if_neg]
      rw [hf.1, hf.2]; simp
    · exact e3.symm
theorem ask_typed {vs : List Vr} (hm : mayV vs = 0) (hv : vOk vs) : ∀ {e : Ex} {k : Kd} (t : Int), well e → evT (partK vs) e = .ok k → dep e ≤ 24 → (flat e).length ≤ 500 → k.typ ≠ 0 → askE vs t e = resE vs e
  | .leaf p, k, t, hw, h, _, _, h0 => by
    rcases leaf_kind hv hw.1 hw.2 h with ⟨-, -, rfl⟩ | ⟨h1, -⟩
    · exact absurd rfl h0
    · rw [askE, if_neg (fun h => h1 h.1 h.2)]; rfl
  | .one p a, k, t, hw, h, hd, hl, h0 => by
    obtain ⟨u, hu, hp⟩ := ev1_inv h
    have hda : dep a ≤ 24 := by have : dep (.one p a) = dep a + 1 := rfl; omega
    have hla : (flat a).length ≤ 500 := by
      have : (flat (.one p a)).length = (flat a).length + 1 := by show (flat a ++ [p]).length = _; simp
      omega
    have ih := fun t (hu0 : u.typ ≠ 0) => ask_typed hm hv t hw.2.2 hu hda hla hu0
    have ib := fun t (hu0 : u.typ = 0) => ask_bare hv t hw.2.2 hu hu0
    rw [askE]
    show _ = Ex.one p (if (kt vs a).typ = 0 then giveT (askT p [(kt vs a).typ] (kt vs (.one p a)).typ (flat (resE vs a))) (resE vs a) else resE vs a)
    rw [kt_ok hu, kt_ok h]
    congr 1
    by_cases hu0 : u.typ = 0
    · rw [if_pos hu0, ib _ hu0]
      obtain ⟨hb, hi, hres⟩ := bare hv hw.2.2 hu hu0
      rw [hres]
      congr 1
      rcases one_kind hv hw.1 hw.2.1 hp with ⟨h5, hn, hp⟩ | ⟨h3, ha, -, -⟩ | ⟨h6, ha, -, -⟩
      · exfalso
        rcases opK_inv hp with ⟨-, -, -, rfl⟩ | ⟨hr, hf, -, rfl, hno⟩
        · exact h0 rfl
        · exact hno ⟨hu0, hu0, by
            rcases res_three (op := p.n) (by omega) with ⟨h, -⟩ | ⟨-, -, h⟩
            · rw [h]
            · omega⟩
      · have h3f : kFits u 3 = 0 := by
          rcases kAmong_inv ha with ⟨t, ht, e⟩ | h
          · rw [List.mem_singleton] at ht; subst ht; rw [e] at hu0; exact absurd hu0 (by decide)
          · exact h
        rw [if_pos h3, idx_same hm hv hw.2.2 hu hda hla hu0 h3f]
        unfold askT; rw [if_pos h3]
      · rw [if_neg (by omega), if_pos h6]
        unfold askT; rw [if_neg (by omega), if_pos h6]
    · rw [if_neg hu0]; exact ih _ hu0
  | .two p a b, k, t, hw, h, hd, hl, h0 => by
    obtain ⟨u, u', hu, hu', hp⟩ := ev2_inv h
    have hdd : dep (.two p a b) = max (dep b) (dep a) + 1 := rfl
    have hll : (flat (.two p a b)).length = (flat a).length + ((flat b).length + 1) := by show (flat a ++ (flat b ++ [p])).length = _; simp
    obtain ⟨h5, hn⟩ := two_kind hw.1 hw.2.1
    have ih := fun t (hu0 : u.typ ≠ 0) => ask_typed hm hv t hw.2.2.1 hu (by omega) (by omega) hu0
    have ih' := fun t (hu0 : u'.typ ≠ 0) => ask_typed hm hv t hw.2.2.2 hu' (by omega) (by omega) hu0
    have ib := fun t (hu0 : u.typ = 0) => ask_bare hv t hw.2.2.1 hu hu0
    have ib' := fun t (hu0 : u'.typ = 0) => ask_bare hv t hw.2.2.2 hu' hu0
    rw [askE]
    show _ = Ex.two p (if (kt vs a).typ = 0 then giveT (askT p [(kt vs a).typ, (kt vs b).typ] (kt vs (.two p a b)).typ (flat (resE vs a))) (resE vs a) else resE vs a) (if (kt vs b).typ = 0 then giveT (askT p [(kt vs a).typ, (kt vs b).typ] (kt vs (.two p a b)).typ (flat (resE vs b))) (resE vs b) else resE vs b)
    have ask : ∀ l, askT p [u.typ, u'.typ] k.typ l = kTwo vs p a b t := fun l => by
      unfold askT kTwo
      rw [if_neg (by omega), if_neg (by omega), if_neg h0, kt_ok hu, kt_ok hu']
      show (if max u.typ u'.typ = 0 then 3 else max u.typ u'.typ) = _
      by_cases hz : max u.typ u'.typ = 0
      · rw [if_pos hz, if_pos hz]
        have h9 : 9 ≤ p.n := by
          have k1 : u.typ = 0 := by
            by_cases e : u.typ = 0
            · exact e
            · have := (k_form hv hw.2.2.1 hu e).2; omega
          have k2 : u'.typ = 0 := by
            by_cases e : u'.typ = 0
            · exact e
            · have := (k_form hv hw.2.2.2 hu' e).2; omega
          rw [partK_five h5] at hp
          rcases opK_inv hp with ⟨-, -, -, rfl⟩ | ⟨-, -, -, -, hno⟩
          · exact absurd rfl h0
          · rcases res_three (op := p.n) (by omega) with ⟨h, -⟩ | ⟨-, -, h⟩
            · exact absurd ⟨k1, k2, by rw [h]⟩ hno
            · exact h.1
        rw [if_pos h9]
      · rw [if_neg hz, if_neg hz]
    rw [kt_ok hu, kt_ok hu', kt_ok h, ask, ask]
    congr 1
    · by_cases hu0 : u.typ = 0
      · rw [if_pos hu0, ib _ hu0, (bare hv hw.2.2.1 hu hu0).2.2]
      · rw [if_neg hu0]; exact ih _ hu0
    · by_cases hu0 : u'.typ = 0
      · rw [if_pos hu0, ib' _ hu0, (bare hv hw.2.2.2 hu' hu0).2.2]
      · rw [if_neg hu0]; exact ih' _ hu0
theorem ask_end {vs : List Vr} (hm : mayV vs = 0) (hv : vOk vs) {e : Ex} {k : Kd} (t : Int) (hw : well e) (h : evT (partK vs) e = .ok k) (hd : dep e ≤ 24) (hl : (flat e).length ≤ 500) : askE vs t e = endE vs e t := by
  unfold endE kid
  rw [kt_ok h]
  by_cases h0 : k.typ = 0
  · rw [if_pos h0, (bare hv hw h h0).2.2, ask_bare hv t hw h h0]
  · rw [if_neg h0, ask_typed hm hv t hw h hd hl h0]
end Go.Proofs.YtldjiieckddhkaaGreatDoor
