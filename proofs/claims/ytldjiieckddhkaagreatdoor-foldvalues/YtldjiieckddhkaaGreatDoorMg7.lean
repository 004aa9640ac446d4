/- FpE | FpF | VLst | DcW -/
import Derived.Test.YtldjiieckddhkaaGreatDoorMg6
import Derived.Test.YtldjiieckddhkaaGreatDoorMg4
namespace Go.Proofs.YtldjiieckddhkaaGreatDoor
theorem in_flat {P : Pt → Prop} : ∀ {e : Ex}, (∀ p ∈ flat e, p.kind = 1 → P p) → InT P e
  | .leaf p, h => h p (by simp [flat])
  | .one p e, h => in_flat (e := e) fun q hq => h q (by simp [flat, hq])
  | .two p a b, h => ⟨in_flat (e := a) fun q hq => h q (by simp [flat, hq]), in_flat (e := b) fun q hq => h q (by simp [flat, hq])⟩
theorem flat_in {P : Pt → Prop} : ∀ {e : Ex}, well e → InT P e → ∀ p ∈ flat e, p.kind = 1 → P p
  | .leaf p, _, h, q, hq, hk => by
    rw [flat, List.mem_singleton] at hq
    subst hq; exact h hk
  | .one p e, hw, h, q, hq, hk => by
    rw [flat, List.mem_append, List.mem_singleton] at hq
    rcases hq with hq | rfl
    · exact flat_in (e := e) hw.2.2 h q hq hk
    · exact absurd hk (takes_num (by rw [hw.1]; decide))
  | .two p a b, hw, h, q, hq, hk => by
    rw [flat, List.mem_append, List.mem_append, List.mem_singleton] at hq
    rcases hq with hq | hq | rfl
    · exact flat_in (e := a) hw.2.2.1 h.1 q hq hk
    · exact flat_in (e := b) hw.2.2.2 h.2 q hq hk
    · exact absurd hk (takes_num (by rw [hw.1]; decide))
theorem idx_fits {l : List Pt} : (idxT l = 2 ∧ ∀ p ∈ l, p.kind = 1 → fit6 2 p.n = true) ∨ idxT l = 3 := by
  unfold idxT
  split
  · rename_i h
    refine .inl ⟨rfl, fun p hp hk => ?_⟩
    have := List.all_eq_true.1 h p hp
    rw [decide_eq_true hk] at this
    simpa using this
  · exact .inr rfl
structure Rt (vs : List Vr) (e r : Ex) (t : Int) : Prop where
  kind : evT (partK vs) r = .ok (kT t)
  wel : well r
  typed : InT (fun p => p.t ≠ 0) r
  deps : dep r = dep e
def kid (u : Kd) (A : Int) (r : Ex) : Ex := if u.typ = 0 then giveT A r else r
theorem kid_ok {vs : List Vr} (hv : vOk vs) {a : Ex} {u : Kd} (hw : well a) (hu : evT (partK vs) a = .ok u) (ih : u.typ ≠ 0 → Rt vs a (resE vs a) u.typ) {A T : Int}
    (h : (u.typ ≠ 0 ∧ T = u.typ) ∨ (u.typ = 0 ∧ A = T ∧ (T = 2 ∨ T = 3) ∧ InT (fun p => fit6 T p.n = true) a)) : Rt vs a (kid u A (resE vs a)) T := by
  rcases h with ⟨h0, rfl⟩ | ⟨h0, rfl, hT, hi⟩
  · rw [kid, if_neg h0]; exact ih h0
  · obtain ⟨hb, -, hres⟩ := bare hv hw hu h0
    rw [kid, if_pos h0, hres]
    obtain ⟨h1, h2, h3⟩ := give_kind vs hT hb hw hi
    exact ⟨h1, h2, h3, give_dep _ _⟩
theorem fits_kid {vs : List Vr} (hv : vOk vs) {a : Ex} {u : Kd} (hw : well a) (hu : evT (partK vs) a = .ok u) {A T : Int} (hf : kFits u T = 0) (hA : u.typ = 0 → A = T) :
    (u.typ ≠ 0 ∧ T = u.typ) ∨ (u.typ = 0 ∧ A = T ∧ (T = 2 ∨ T = 3) ∧ InT (fun p => fit6 T p.n = true) a) := by
  rcases kFits_inv hf with ⟨h0, h1⟩ | ⟨h0, hT, hl, hh⟩
  · refine .inl ⟨h0, ?_⟩
    rw [h1]; rfl
  · obtain ⟨-, hi, -⟩ := bare hv hw hu h0
    exact .inr ⟨h0, hA h0, hT, hi.mono fun p hp => fit_mid hT hl hh hp.1 hp.2⟩
theorem typed_tree {vs : List Vr} (hv : vOk vs) : ∀ {e : Ex} {k : Kd}, well e → evT (partK vs) e = .ok k → k.typ ≠ 0 → Rt vs e (resE vs e) k.typ
  | .leaf p, k, hw, h, h0 => by
    rcases leaf_kind hv hw.1 hw.2 h with ⟨-, -, rfl⟩ | ⟨h1, h2, -⟩
    · exact absurd rfl h0
    · exact ⟨by rw [← h2]; exact h, hw, h1, rfl⟩
  | .one p a, k, hw, h, h0 => by
    obtain ⟨u, hu, hp⟩ := ev1_inv h
    have ih := fun hu0 => typed_tree hv hw.2.2 hu hu0
    have er : resE vs (.one p a) = .one p (kid u (askT p [u.typ] k.typ (flat (resE vs a))) (resE vs a)) := by
      show Ex.one p (if (kt vs a).typ = 0 then giveT (askT p [(kt vs a).typ] (kt vs (.one p a)).typ (flat (resE vs a))) (resE vs a) else resE vs a) = _
      rw [kt_ok hu, kt_ok h]; rfl
    rw [er]
    have fin : ∀ T, Rt vs a (kid u (askT p [u.typ] k.typ (flat (resE vs a))) (resE vs a)) T → partK vs p [kT T] = .ok (kT k.typ) → Rt vs (.one p a) (.one p (kid u (askT p [u.typ] k.typ (flat (resE vs a))) (resE vs a))) k.typ :=
      fun T hT hk => ⟨by rw [ev1_mk hT.kind]; exact hk, ⟨hw.1, hw.2.1, hT.wel⟩, hT.typed, by show dep _ + 1 = dep a + 1; rw [hT.deps]⟩
    rcases one_kind hv hw.1 hw.2.1 hp with ⟨h5, hn, hp⟩ | ⟨h3, ha, ⟨v, hf, hk⟩, -⟩ | ⟨h6, ha, hk, -⟩
    · rcases opK_inv hp with ⟨-, -, -, rfl⟩ | ⟨hr, hf, -, rfl, hno⟩
      · exact absurd rfl h0
      · have hu0 : u.typ ≠ 0 := fun e0 => hno ⟨e0, e0, by
          rcases res_three (op := p.n) (by omega) with ⟨h, -⟩ | ⟨-, -, h⟩
          · rw [h]
          · omega⟩
        have hT : tyOr u (tyOr u 3) = u.typ := by unfold tyOr; rw [if_neg hu0]
        rw [hT] at hr
        have : (kT (Four.resN p.n (tyOr u (tyOr u 3))).1).typ = (Four.resN p.n u.typ).1 := by rw [hT]; rfl
        refine fin u.typ (kid_ok hv hw.2.2 hu ih (.inl ⟨hu0, rfl⟩)) ?_
        rw [this, partK_five h5]
        exact opK_typed hu0 hr
    ·
      have ask : askT p [u.typ] k.typ (flat (resE vs a)) = idxT (flat (resE vs a)) := by unfold askT; rw [if_pos h3]
      have pk : ∀ T, T = 2 ∨ T = 3 → partK vs p [kT T] = .ok (kT k.typ) := fun T hT => by
        have hA : kAmong (kT T) [2] = 0 := by rcases hT with rfl | rfl <;> decide
        unfold partK
        rw [if_neg (by omega), if_neg (by omega), if_pos h3, hf]
        show (if kAmong (kT T) [2] ≠ 0 then Except.error (kAmong (kT T) [2]) else Except.ok (kT v.ty)) = _
        rw [if_neg (by rw [hA]; decide), hk]; rfl
      by_cases hu0 : u.typ = 0
      · obtain ⟨hb, hi, hres⟩ := bare hv hw.2.2 hu hu0
        have h3f : kFits u 3 = 0 := by
          rcases kAmong_inv ha with ⟨t, ht, e⟩ | h
          · rw [List.mem_singleton] at ht; subst ht; rw [e] at hu0; exact absurd hu0 (by decide)
          · exact h
        rcases idx_fits (l := flat (resE vs a)) with ⟨e2, hall⟩ | e3
        · rw [hres] at hall
          exact fin 2 (kid_ok hv hw.2.2 hu ih (.inr ⟨hu0, by rw [ask, e2], .inl rfl, in_flat hall⟩)) (pk 2 (.inl rfl))
        · exact fin 3 (kid_ok hv hw.2.2 hu ih (fits_kid hv hw.2.2 hu h3f fun _ => by rw [ask, e3])) (pk 3 (.inr rfl))
      · have h23 : u.typ = 2 ∨ u.typ = 3 := by
          rcases kAmong_inv ha with ⟨t, ht, e⟩ | h
          · rw [List.mem_singleton] at ht; subst ht; rw [e]; exact .inl rfl
          · rcases kFits_inv h with ⟨-, e⟩ | ⟨e, -⟩
            · rw [e]; exact .inr rfl
            · exact absurd e hu0
        exact fin u.typ (kid_ok hv hw.2.2 hu ih (.inl ⟨hu0, rfl⟩)) (pk _ h23)
    ·
      have ask : askT p [u.typ] k.typ (flat (resE vs a)) = 3 := by unfold askT; rw [if_neg (by omega), if_pos h6]
      have pk : ∀ T, T = 2 ∨ T = 3 ∨ T = 4 → partK vs p [kT T] = .ok (kT k.typ) := fun T hT => by
        have hA : kAmong (kT T) [2, 4] = 0 := by rcases hT with rfl | rfl | rfl <;> decide
        unfold partK
        rw [if_neg (by omega), if_neg (by omega), if_neg (by omega), if_neg (by omega), if_pos h6]
        show (if kAmong (kT T) [2, 4] ≠ 0 then Except.error (kAmong (kT T) [2, 4]) else Except.ok (kT p.t)) = _
        rw [if_neg (by rw [hA]; decide), hk]; rfl
      by_cases hu0 : u.typ = 0
      · have h3f : kFits u 3 = 0 := by
          rcases kAmong_inv ha with ⟨t, ht, e⟩ | h
          · rw [e] at hu0
            simp only [List.mem_cons, List.not_mem_nil, or_false] at ht
            rcases ht with rfl | rfl
            · exact absurd hu0 (by decide)
            · exact absurd hu0 (by decide)
          · exact h
        exact fin 3 (kid_ok hv hw.2.2 hu ih (fits_kid hv hw.2.2 hu h3f fun _ => ask)) (pk 3 (.inr (.inl rfl)))
      · have h234 : u.typ = 2 ∨ u.typ = 3 ∨ u.typ = 4 := by
          rcases kAmong_inv ha with ⟨t, ht, e⟩ | h
          · rw [e]
            simp only [List.mem_cons, List.not_mem_nil, or_false] at ht
            rcases ht with rfl | rfl
            · exact .inl rfl
            · exact .inr (.inr rfl)
          · rcases kFits_inv h with ⟨-, e⟩ | ⟨e, -⟩
            · rw [e]; exact .inr (.inl rfl)
            · exact absurd e hu0
        exact fin u.typ (kid_ok hv hw.2.2 hu ih (.inl ⟨hu0, rfl⟩)) (pk _ h234)
  | .two p a b, k, hw, h, h0 => by
    obtain ⟨u, u', hu, hu', hp⟩ := ev2_inv h
    have ih := fun hu0 => typed_tree hv hw.2.2.1 hu hu0
    have ih' := fun hu0 => typed_tree hv hw.2.2.2 hu' hu0
    obtain ⟨h5, hn⟩ := two_kind hw.1 hw.2.1
    have er : resE vs (.two p a b) = .two p (kid u (askT p [u.typ, u'.typ] k.typ (flat (resE vs a))) (resE vs a)) (kid u' (askT p [u.typ, u'.typ] k.typ (flat (resE vs b))) (resE vs b)) := by
      show Ex.two p (if (kt vs a).typ = 0 then giveT (askT p [(kt vs a).typ, (kt vs b).typ] (kt vs (.two p a b)).typ (flat (resE vs a))) (resE vs a) else resE vs a) (if (kt vs b).typ = 0 then giveT (askT p [(kt vs a).typ, (kt vs b).typ] (kt vs (.two p a b)).typ (flat (resE vs b))) (resE vs b) else resE vs b) = _
      rw [kt_ok hu, kt_ok hu', kt_ok h]; rfl
    rw [er]
    replace hp : opK p.n u u' = .ok k := by rw [partK_five h5] at hp; exact hp
    rcases opK_inv hp with ⟨-, -, -, rfl⟩ | ⟨hr, hf, hf', rfl, -⟩
    · exact absurd rfl h0
    · have hr : (Four.resN p.n (tyOr u (tyOr u' 3))).2 = 0 := hr
      have hf : kFits u (tyOr u (tyOr u' 3)) = 0 := hf
      have hf' : kFits u' (tyOr u (tyOr u' 3)) = 0 := hf'
      have hkf := k_form hv hw.2.2.1 hu
      have hkf' := k_form hv hw.2.2.2 hu'
      have ht := tyOr_pos (l := u) (r := u') (fun h => (hkf h).2) (fun h => (hkf' h).2)
      have hm : (kT (Four.resN p.n (tyOr u (tyOr u' 3))).1).typ ≠ 0 := h0
      have ask : ∀ l, u.typ = 0 ∨ u'.typ = 0 → askT p [u.typ, u'.typ] (kT (Four.resN p.n (tyOr u (tyOr u' 3))).1).typ l = tyOr u (tyOr u' 3) := fun l h00 => by
        unfold askT
        rw [if_neg (by omega), if_neg (by omega), if_neg hm]
        show (if max u.typ u'.typ = 0 then 3 else max u.typ u'.typ) = _
        unfold tyOr
        by_cases e : u.typ = 0
        · rw [if_pos e, e]
          by_cases e' : u'.typ = 0
          · rw [if_pos e', e']; rfl
          · rw [if_neg e', if_neg (by have := (hkf' e').2; omega)]
            have := (hkf' e').2; omega
        · rw [if_neg e]
          have e' : u'.typ = 0 := by rcases h00 with h | h; exact absurd h e; exact h
          rw [e', if_neg (by have := (hkf e).2; omega)]
          have := (hkf e).2; omega
      have r1 := kid_ok hv hw.2.2.1 hu ih (A := askT p [u.typ, u'.typ] (kT (Four.resN p.n (tyOr u (tyOr u' 3))).1).typ (flat (resE vs a))) (fits_kid hv hw.2.2.1 hu hf fun e => ask _ (.inl e))
      have r2 := kid_ok hv hw.2.2.2 hu' ih' (A := askT p [u.typ, u'.typ] (kT (Four.resN p.n (tyOr u (tyOr u' 3))).1).typ (flat (resE vs b))) (fits_kid hv hw.2.2.2 hu' hf' fun e => ask _ (.inr e))
      refine ⟨?_, ⟨hw.1, hw.2.1, r1.wel, r2.wel⟩, ⟨r1.typed, r2.typed⟩, ?_⟩
      · rw [ev2_mk r1.kind r2.kind, partK_five h5]
        exact opK_typed (by omega) hr
      · show max (dep _) (dep _) + 1 = max (dep b) (dep a) + 1
        rw [r1.deps, r2.deps]
theorem evR_tree {vs : List Vr} (hv : vOk vs) : ∀ {e : Ex} {k : Kd}, well e → evT (partK vs) e = .ok k → evT (partR vs) e = .ok ⟨k, flat (resE vs e)⟩
  | .leaf p, k, hw, h => by
    show partR vs p [] = _
    have h' : partK vs p [] = .ok k := h
    unfold partR
    rw [show ([] : List Vl).map (·.k) = [] from rfl, h']
    rfl
  | .one p a, k, hw, h => by
    obtain ⟨u, hu, hp⟩ := ev1_inv h
    rw [ev1_mk (evR_tree hv hw.2.2 hu)]
    unfold partR
    rw [show [(⟨u, flat (resE vs a)⟩ : Vl)].map (·.k) = [u] from rfl, hp]
    show Except.ok (Vl.mk k ((resV p [u.typ] k.typ ⟨u, flat (resE vs a)⟩ ++ []) ++ [p])) = Except.ok (Vl.mk k (flat (.one p (if (kt vs a).typ = 0 then giveT (askT p [(kt vs a).typ] (kt vs (.one p a)).typ (flat (resE vs a))) (resE vs a) else resE vs a))))
    rw [kt_ok hu, kt_ok h, List.append_nil]
    unfold resV
    by_cases h0 : u.typ = 0
    · obtain ⟨-, -, hres⟩ := bare hv hw.2.2 hu h0
      rw [if_pos h0, if_pos h0, hres, flat, give_flat _ hw.2.2]
    · rw [if_neg h0, if_neg h0]; rfl
  | .two p a b, k, hw, h => by
    obtain ⟨u, u', hu, hu', hp⟩ := ev2_inv h
    rw [ev2_mk (evR_tree hv hw.2.2.1 hu) (evR_tree hv hw.2.2.2 hu')]
    unfold partR
    rw [show [(⟨u, flat (resE vs a)⟩ : Vl), ⟨u', flat (resE vs b)⟩].map (·.k) = [u, u'] from rfl, hp]
    show Except.ok (Vl.mk k ((resV p [u.typ, u'.typ] k.typ ⟨u, flat (resE vs a)⟩ ++ (resV p [u.typ, u'.typ] k.typ ⟨u', flat (resE vs b)⟩ ++ [])) ++ [p])) = Except.ok (Vl.mk k (flat (.two p
      (if (kt vs a).typ = 0 then giveT (askT p [(kt vs a).typ, (kt vs b).typ] (kt vs (.two p a b)).typ (flat (resE vs a))) (resE vs a) else resE vs a)
      (if (kt vs b).typ = 0 then giveT (askT p [(kt vs a).typ, (kt vs b).typ] (kt vs (.two p a b)).typ (flat (resE vs b))) (resE vs b) else resE vs b))))
    rw [kt_ok hu, kt_ok hu', kt_ok h, List.append_nil, List.append_assoc]
    unfold resV
    have e1 : (if (Vl.mk u (flat (resE vs a))).k.typ = 0 then giveP (askT p [u.typ, u'.typ] k.typ (flat (resE vs a))) (flat (resE vs a)) else flat (resE vs a)) = flat (if u.typ = 0 then giveT (askT p [u.typ, u'.typ] k.typ (flat (resE vs a))) (resE vs a) else resE vs a) := by
      by_cases h0 : u.typ = 0
      · obtain ⟨-, -, hres⟩ := bare hv hw.2.2.1 hu h0
        rw [if_pos h0, if_pos h0, hres, give_flat _ hw.2.2.1]
      · rw [if_neg h0, if_neg h0]
    have e2 : (if (Vl.mk u' (flat (resE vs b))).k.typ = 0 then giveP (askT p [u.typ, u'.typ] k.typ (flat (resE vs b))) (flat (resE vs b)) else flat (resE vs b)) = flat (if u'.typ = 0 then giveT (askT p [u.typ, u'.typ] k.typ (flat (resE vs b))) (resE vs b) else resE vs b) := by
      by_cases h0 : u'.typ = 0
      · obtain ⟨-, -, hres⟩ := bare hv hw.2.2.2 hu' h0
        rw [if_pos h0, if_pos h0, hres, give_flat _ hw.2.2.2]
      · rw [if_neg h0, if_neg h0]
    rw [e1, e2]; rfl
def endE (vs : List Vr) (e : Ex) (t : Int) : Ex := kid (kt vs e) t (resE vs e)
theorem res_tree {vs : List Vr} (hv : vOk vs) {e : Ex} {k : Kd} {t : Int} (hw : well e) (h : evT (partK vs) e = .ok k) (hf : kFits k t = 0) :
    Rt vs e (endE vs e t) t ∧ resP vs (flat e) t = flat (endE vs e t) := by
  have r := kid_ok hv hw h (typed_tree hv hw h) (fits_kid hv hw h hf (A := t) fun _ => rfl)
  unfold endE
  rw [kt_ok h]
  refine ⟨r, ?_⟩
  unfold resP
  rw [run_tree _ hw, evR_tree hv hw h]
  show endR t ⟨k, flat (resE vs e)⟩ = _
  unfold endR kid
  by_cases h0 : k.typ = 0
  · obtain ⟨-, -, hres⟩ := bare hv hw h h0
    rw [if_pos h0, if_pos h0, hres, give_flat _ hw]
  · rw [if_neg h0, if_neg h0]
end Go.Proofs.YtldjiieckddhkaaGreatDoor
namespace Go.Proofs.YtldjiieckddhkaaGreatDoor
def numOf : Ex → Option Pt
  | .leaf p => if p.kind = 1 then some p else none
  | _ => none
def foldE : Ex → Ex
  | .leaf p => .leaf p
  | .one p a => match numOf (foldE a) with
    | none => .one p (foldE a)
    | some n => match reckP p [n] with
      | some q => .leaf q
      | none => .one p (foldE a)
  | .two p a b => match numOf (foldE a), numOf (foldE b) with
    | some n, some m => (match reckP p [n, m] with
      | some q => .leaf q
      | none => .two p (foldE a) (foldE b))
    | _, _ => .two p (foldE a) (foldE b)
theorem num_of {e : Ex} {n : Pt} (h : numOf e = some n) : e = .leaf n ∧ n.kind = 1 := by
  cases e with
  | leaf p =>
    by_cases hk : p.kind = 1
    · rw [numOf, if_pos hk] at h; rw [← Option.some.inj h]; exact ⟨rfl, hk⟩
    · rw [numOf, if_neg hk] at h; exact absurd h (by simp)
  | one p a => exact absurd h (by simp [numOf])
  | two p a b => exact absurd h (by simp [numOf])
theorem flat_pos : ∀ e : Ex, 1 ≤ (flat e).length
  | .leaf _ => by simp [flat]
  | .one _ _ => by simp [flat]
  | .two _ _ _ => by simp [flat]; omega
theorem flat_one {e : Ex} (h : (flat e).length = 1) : ∃ p, e = .leaf p := by
  cases e with
  | leaf p => exact ⟨p, rfl⟩
  | one p a => have := flat_pos a; simp [flat] at h; rw [h] at this; simp at this
  | two p a b => have := flat_pos a; simp [flat] at h; omega
theorem num_none {e : Ex} {p : Pt} (h : numOf e = none) (h1 : (flat e).length = 1) (r : List Pt) : reckP p (flat e ++ r) = none := by
  obtain ⟨q, rfl⟩ := flat_one h1
  have hq : q.kind ≠ 1 := fun e => by rw [numOf, if_pos e] at h; exact absurd h (by simp)
  unfold reckP
  rw [if_pos]
  show List.any (q :: r) _ = true
  rw [List.any_cons, decide_eq_true hq]; rfl
theorem num_none' {e : Ex} {p n : Pt} (h : numOf e = none) (h1 : (flat e).length = 1) : reckP p (n :: flat e) = none := by
  obtain ⟨q, rfl⟩ := flat_one h1
  have hq : q.kind ≠ 1 := fun e => by rw [numOf, if_pos e] at h; exact absurd h (by simp)
  unfold reckP
  rw [if_pos]
  show List.any [n, q] _ = true
  rw [List.any_cons, List.any_cons, decide_eq_true hq, Bool.true_or, Bool.or_true]
theorem reck_leaf (p : Pt) : reckP p [] = none := by
  unfold reckP
  rw [if_neg (by simp)]
  split
  · rfl
  split
  · rfl
  · rfl
theorem foldE_flat : ∀ {e : Ex}, well e → foldT e = flat (foldE e)
  | .leaf p, _ => by
    rw [foldT_leaf]
    unfold segF
    rw [if_pos (show (([] : List (List Pt)).all fun s => decide (s.length = 1)) = true from rfl), show ([] : List (List Pt)).flatten = [] from rfl, reck_leaf]; rfl
  | .one p a, h => by
    rw [foldT_one, foldE_flat h.2.2]
    unfold segF
    show (if (decide ((flat (foldE a)).length = 1) && true) = true then _ else _) = _
    rw [show ([flat (foldE a)] : List (List Pt)).flatten = flat (foldE a) from by simp]
    rw [foldE]
    cases hn : numOf (foldE a) with
    | none =>
      show _ = flat (foldE a) ++ [p]
      split
      · rename_i h1
        rw [Bool.and_true] at h1
        have := num_none (p := p) hn (of_decide_eq_true h1) []
        rw [List.append_nil] at this
        rw [this]
      · rfl
    | some n =>
      obtain ⟨e1, hk⟩ := num_of hn
      rw [e1]
      show (match reckP p [n] with | some q => [q] | none => [n] ++ [p]) = flat (match reckP p [n] with | some q => .leaf q | none => .one p (.leaf n))
      cases reckP p [n] <;> rfl
  | .two p a b, h => by
    rw [foldT_two, foldE_flat h.2.2.1, foldE_flat h.2.2.2]
    unfold segF
    show (if (decide ((flat (foldE a)).length = 1) && (decide ((flat (foldE b)).length = 1) && true)) = true then _ else _) = _
    rw [show ([flat (foldE a), flat (foldE b)] : List (List Pt)).flatten = flat (foldE a) ++ flat (foldE b) from by simp, List.append_assoc, foldE]
    cases hn : numOf (foldE a) with
    | none =>
      show _ = flat (foldE a) ++ (flat (foldE b) ++ [p])
      split
      · rename_i h1
        rw [Bool.and_eq_true] at h1
        rw [num_none hn (of_decide_eq_true h1.1)]
      · rfl
    | some n =>
      obtain ⟨e1, hk⟩ := num_of hn
      rw [e1]
      cases hm : numOf (foldE b) with
      | none =>
        show _ = flat (.leaf n) ++ (flat (foldE b) ++ [p])
        split
        · rename_i h1
          rw [Bool.and_eq_true, Bool.and_true] at h1
          rw [show flat (.leaf n) ++ flat (foldE b) = n :: flat (foldE b) from rfl, num_none' hm (of_decide_eq_true h1.2)]
        · rfl
      | some m =>
        obtain ⟨e2, hk'⟩ := num_of hm
        rw [e2]
        show (match reckP p [n, m] with | some q => [q] | none => [n] ++ ([m] ++ [p])) = flat (match reckP p [n, m] with | some q => .leaf q | none => .two p (.leaf n) (.leaf m))
        cases reckP p [n, m] <;> rfl
theorem foldP_flat {e : Ex} (h : well e) : foldP (flat e) = flat (foldE e) := (foldP_tree h).trans (foldE_flat h)
structure Ft (vs : List Vr) (e r : Ex) (k : Kd) : Prop where
  kind : evT (partK vs) r = .ok k
  wel : well r
  typed : InT (fun p => p.t ≠ 0) r
  deps : dep r ≤ dep e
theorem dep_pos : ∀ e : Ex, 1 ≤ dep e
  | .leaf _ => Nat.le_refl _
  | .one _ e => by show 1 ≤ dep e + 1; omega
  | .two _ a b => by show 1 ≤ max (dep b) (dep a) + 1; omega
theorem reck_form {p q : Pt} {on : List Pt} (h : reckP p on = some q) : (p.kind = 6 ∧ ∃ a r, on = a :: r ∧ (Four.convN a.t p.t a.n).2 = 0 ∧ q = numP (Four.convN a.t p.t a.n).1 p.t) ∨
    (p.kind = 5 ∧ ((∃ a, on = [a] ∧ (Four.oneN p.n a.t a.n).2 = 0 ∧ q = numP (Four.oneN p.n a.t a.n).1 (Four.resN p.n a.t).1) ∨
      (∃ a b r, on = a :: b :: r ∧ (Four.twoN p.n a.t a.n b.n).2 = 0 ∧ q = numP (Four.twoN p.n a.t a.n b.n).1 (Four.resN p.n a.t).1))) := by
  unfold reckP at h
  split at h
  · exact absurd h (by simp)
  split at h
  · rename_i h6
    split at h
    · split at h
      · rename_i e
        exact .inl ⟨h6, _, _, rfl, e, (Option.some.inj h).symm⟩
      · exact absurd h (by simp)
    · exact absurd h (by simp)
  split at h
  · rename_i h5
    split at h
    · split at h
      · rename_i e
        exact .inr ⟨h5, .inl ⟨_, rfl, e, (Option.some.inj h).symm⟩⟩
      · exact absurd h (by simp)
    · split at h
      · rename_i e
        exact .inr ⟨h5, .inr ⟨_, _, _, rfl, e, (Option.some.inj h).symm⟩⟩
      · exact absurd h (by simp)
    · exact absurd h (by simp)
  · exact absurd h (by simp)
end Go.Proofs.YtldjiieckddhkaaGreatDoor
namespace Go.Proofs.YtldjiieckddhkaaGreatDoor
open Go.RowKit
structure Vv where
  s : ByteArray
  ty : Int
  len : Int
  init : Int
  dir : Int
def VvAt (w : World) (b off : Nat) (l : List Vv) : Prop :=
  ∀ i x, l[i]? = some x → w.cell? ⟨b, off + i * 5, none⟩ = some (.string x.s) ∧ w.cell? ⟨b, off + i * 5 + 1, none⟩ = some (.int .i64 x.ty) ∧ w.cell? ⟨b, off + i * 5 + 2, none⟩ = some (.int .i64 x.len) ∧ w.cell? ⟨b, off + i * 5 + 3, none⟩ = some (.int .i64 x.init) ∧ w.cell? ⟨b, off + i * 5 + 4, none⟩ = some (.int .i64 x.dir)
def VLst (w : World) (v : Value) (l : List Vv) : Prop :=
  ∃ (a : Option Addr) (b off cap : Nat), v = .slice a l.length cap ∧ (0 < l.length → b < w.heap.size ∧ a = some ⟨b, off, none⟩) ∧ VvAt w b off l
theorem VLst.below {w w' : World} {v : Value} {l : List Vv} {B : Nat} (h : VLst w v l) (hb : Below B w w') (hB : w.heap.size ≤ B) : VLst w' v l := by
  obtain ⟨a, b, off, cap, rfl, hb0, hI⟩ := h
  refine ⟨a, b, off, cap, rfl, fun h => ⟨by have := hb.size; have := (hb0 h).1; omega, (hb0 h).2⟩, fun i x hx => ?_⟩
  have hlt : b < B := by have := (hb0 (by have := (List.getElem?_eq_some_iff.1 hx).1; omega)).1; omega
  obtain ⟨h1, h2, h3, h4, h5⟩ := hI i x hx
  exact ⟨(hb.cell (p := ⟨b, _, none⟩) hlt).trans h1, (hb.cell (p := ⟨b, _, none⟩) hlt).trans h2, (hb.cell (p := ⟨b, _, none⟩) hlt).trans h3, (hb.cell (p := ⟨b, _, none⟩) hlt).trans h4, (hb.cell (p := ⟨b, _, none⟩) hlt).trans h5⟩
def vrV (x : Vv) : Vr := ⟨x.s.data.toList, x.ty, x.len, x.init, x.dir⟩
theorem VLst.nil (w : World) : VLst w (.slice none 0 0) [] := ⟨none, 0, 0, 0, rfl, fun h => absurd h (Nat.lt_irrefl 0), fun i x hx => by cases hx⟩
end Go.Proofs.YtldjiieckddhkaaGreatDoor
namespace Go.Proofs.YtldjiieckddhkaaGreatDoor
open Go.RowKit
def twFind (n : Int) : Option (Bs × Int) := twRows.find? fun r => decide (r.2 = n)
def swFind (n : Int) : Option (Bs × Int) := swRows.find? fun r => decide (r.2 = n)
def wRes (o : Option (Bs × Int)) : Value := match o with
  | some r => .tuple #[.string ⟨r.1.toArray⟩, .bool true]
  | none => .tuple #[.string ⟨#[]⟩, .bool false]
theorem tw_some (n : Int) : (twFind n).isSome = tyW n := by
  unfold twFind tyW twRows
  rw [List.isSome_find?]
  simp only [List.any_cons, List.any_nil]
  rw [Bool.eq_iff_iff]; simp; omega
theorem sw_some (n : Int) : (swFind n).isSome = (decide (0 ≤ n) && decide (n ≤ 2)) := by
  unfold swFind swRows
  rw [List.isSome_find?]
  simp only [List.any_cons, List.any_nil]
  rw [Bool.eq_iff_iff]; simp; omega
theorem size206' : (Tryz.prog.info? 206).map (·.size) = some 28 := by kernel_rfl
theorem size206 : (Tryz.prog.info? 206).map (·.size) = some twTab.length := size206'
theorem tw_cells (k : Nat) (h : k < 14) : twTab.toArray.extract (k * 2) (k * 2 + 2) = #[.string ⟨(twRows[k]'h).1.toArray⟩, .int .i64 (twRows[k]'h).2] := by
  have hk : k = 0 ∨ k = 1 ∨ k = 2 ∨ k = 3 ∨ k = 4 ∨ k = 5 ∨ k = 6 ∨ k = 7 ∨ k = 8 ∨ k = 9 ∨ k = 10 ∨ k = 11 ∨ k = 12 ∨ k = 13 := by omega
  rcases hk with rfl | rfl | rfl | rfl | rfl | rfl | rfl | rfl | rfl | rfl | rfl | rfl | rfl | rfl <;> rfl
theorem tw_idx (k : Nat) (h : k < 14) (W : World) : (Instr.index 206 (.agg twTab.toArray) (.int .i64 (k : Int))).run Tryz.prog W = .ok (.agg #[.string ⟨(twRows[k]'h).1.toArray⟩, .int .i64 (twRows[k]'h).2]) W :=
  index_row Tryz.underlying206 (fun _ => Tryz.isAgg205 _) (fun _ => Tryz.sizeOf205 _) _ k h _ (tw_cells k h) W
theorem size209' : (Tryz.prog.info? 209).map (·.size) = some 6 := by kernel_rfl
theorem size209 : (Tryz.prog.info? 209).map (·.size) = some swTab.length := size209'
theorem sw_cells (k : Nat) (h : k < 3) : swTab.toArray.extract (k * 2) (k * 2 + 2) = #[.string ⟨(swRows[k]'h).1.toArray⟩, .int .i64 (swRows[k]'h).2] := by
  have hk : k = 0 ∨ k = 1 ∨ k = 2 := by omega
  rcases hk with rfl | rfl | rfl <;> rfl
theorem sw_idx (k : Nat) (h : k < 3) (W : World) : (Instr.index 209 (.agg swTab.toArray) (.int .i64 (k : Int))).run Tryz.prog W = .ok (.agg #[.string ⟨(swRows[k]'h).1.toArray⟩, .int .i64 (swRows[k]'h).2]) W :=
  index_row Tryz.underlying209 (fun _ => Tryz.isAgg208 _) (fun _ => Tryz.sizeOf208 _) _ k h _ (sw_cells k h) W
set_option maxRecDepth 100000 in
set_option maxHeartbeats 1600000 in
theorem wordOfType_any (n : Int) (w : World) (hg : TabAt w 4 twTab) : Calls Tryz.prog 166 #[.int .i64 n] w fun e w' => e = .returned (wRes (twFind n)) ∧ Below w.heap.size w w' := by
  have ix : Hid (∀ (k : Nat) (h : k < 14) (W : World), (Instr.index 206 (.agg twTab.toArray) (.int .i64 (k : Int))).run Tryz.prog W = .ok (.agg #[.string ⟨(twRows[k]'h).1.toArray⟩, .int .i64 (twRows[k]'h).2]) W) := tw_idx
  obtain ⟨KT, hT⟩ : ∃ KT, Value.agg twTab.toArray = KT := ⟨_, rfl⟩
  rw [hT] at ix
  go_enter Tryz.func166, Tryz.ntmps166
  go_wp2_with ((with_reducible refine at_load (ty := 206) ?_); go_must (refine load_tab (b := 4) (t := twTab) (T := KT) rfl hg hT Tryz.underlying206 rfl size206 ?_))
  clear hg hT
  go_loopw [7] (fun i wr => ∃ k : Nat, k ≤ 14 ∧ i = .int .i64 (k : Int) ∧ Hid (Below w.heap.size w wr ∧ (twRows.drop k).find? (fun r => decide (r.2 = n)) = twFind n)) (fun i _ => 14 - (intOf i).toNat)
  case atStart => exact ⟨0, by omega, rfl, Below.refl _ _, rfl⟩
  case round =>
    obtain ⟨k, hk, rfl, hh⟩ := hrel
    have HB := hide hh.out.1
    have hf := hh.out.2
    clear hh
    by_cases hlt : k < 14
    · have x0 := ix.out k hlt
      have i1 : (k : Int) < 14 := by omega
      rw [List.drop_eq_getElem_cons (show k < twRows.length from hlt), List.find?_cons] at hf
      generalize (twRows[k]'hlt) = r at *
      obtain ⟨r0, r1⟩ := r
      simp only [] at x0 hf
      obtain ⟨u, hu⟩ : ∃ u : ByteArray, u = ⟨r0.toArray⟩ := ⟨_, rfl⟩
      rw [← hu] at x0
      have HU := hide hu
      have zr := HB.out.size
      have B1 := hide (HB.out.alloc zr (.cells #[.string u, .int .i64 r1] 205))
      clear ix hu
      by_cases he : r1 = n
      · rw [decide_eq_true he] at hf
        have HF := hide hf
        subst he
        clear hf
        go_wp2
        go_ret2
        exact ⟨by rw [← HF.out, HU.out]; rfl, B1.out⟩
      · rw [decide_eq_false he] at hf
        have HF := hide hf
        have hen : (r1 == n) = false := by rw [beq_eq_false_iff_ne]; exact he
        clear hf he
        go_wp2
        go_roundw
        case rel => exact ⟨k + 1, by omega, by go_num, B1.out, HF.out⟩
        case measure => simp [intOf]; omega
    · obtain rfl : k = 14 := by omega
      have HF : Hid (twFind n = none) := hf.symm
      clear hf ix
      go_wp2
      go_ret2
      exact ⟨by rw [HF.out]; rfl, HB.out⟩
set_option maxRecDepth 100000 in
set_option maxHeartbeats 1600000 in
theorem wordOfDir_any (n : Int) (w : World) (hg : TabAt w 5 swTab) : Calls Tryz.prog 167 #[.int .i64 n] w fun e w' => e = .returned (wRes (swFind n)) ∧ Below w.heap.size w w' := by
  have ix : Hid (∀ (k : Nat) (h : k < 3) (W : World), (Instr.index 209 (.agg swTab.toArray) (.int .i64 (k : Int))).run Tryz.prog W = .ok (.agg #[.string ⟨(swRows[k]'h).1.toArray⟩, .int .i64 (swRows[k]'h).2]) W) := sw_idx
  obtain ⟨KT, hT⟩ : ∃ KT, Value.agg swTab.toArray = KT := ⟨_, rfl⟩
  rw [hT] at ix
  go_enter Tryz.func167, Tryz.ntmps167
  go_wp2_with ((with_reducible refine at_load (ty := 209) ?_); go_must (refine load_tab (b := 5) (t := swTab) (T := KT) rfl hg hT Tryz.underlying209 rfl size209 ?_))
  clear hg hT
  go_loopw [7] (fun i wr => ∃ k : Nat, k ≤ 3 ∧ i = .int .i64 (k : Int) ∧ Hid (Below w.heap.size w wr ∧ (swRows.drop k).find? (fun r => decide (r.2 = n)) = swFind n)) (fun i _ => 3 - (intOf i).toNat)
  case atStart => exact ⟨0, by omega, rfl, Below.refl _ _, rfl⟩
  case round =>
    obtain ⟨k, hk, rfl, hh⟩ := hrel
    have HB := hide hh.out.1
    have hf := hh.out.2
    clear hh
    by_cases hlt : k < 3
    · have x0 := ix.out k hlt
      have i1 : (k : Int) < 3 := by omega
      rw [List.drop_eq_getElem_cons (show k < swRows.length from hlt), List.find?_cons] at hf
      generalize (swRows[k]'hlt) = r at *
      obtain ⟨r0, r1⟩ := r
      simp only [] at x0 hf
      obtain ⟨u, hu⟩ : ∃ u : ByteArray, u = ⟨r0.toArray⟩ := ⟨_, rfl⟩
      rw [← hu] at x0
      have HU := hide hu
      have zr := HB.out.size
      have B1 := hide (HB.out.alloc zr (.cells #[.string u, .int .i64 r1] 208))
      clear ix hu
      by_cases he : r1 = n
      · rw [decide_eq_true he] at hf
        have HF := hide hf
        subst he
        clear hf
        go_wp2
        go_ret2
        exact ⟨by rw [← HF.out, HU.out]; rfl, B1.out⟩
      · rw [decide_eq_false he] at hf
        have HF := hide hf
        have hen : (r1 == n) = false := by rw [beq_eq_false_iff_ne]; exact he
        clear hf he
        go_wp2
        go_roundw
        case rel => exact ⟨k + 1, by omega, by go_num, B1.out, HF.out⟩
        case measure => simp [intOf]; omega
    · obtain rfl : k = 3 := by omega
      have HF : Hid (swFind n = none) := hf.symm
      clear hf ix
      go_wp2
      go_ret2
      exact ⟨by rw [HF.out]; rfl, HB.out⟩
theorem isValue_any (t : Int) (w : World) (hg : TabAt w 0 spanTab) : Calls Tryz.prog 175 #[.int .i64 t] w fun e w' => e = .returned (.bool (fit6 t 0)) ∧ w' = w := by
  have c := fits_all t 0 w hg
  clear hg
  go_enter Tryz.func175, Tryz.ntmps175
  go_wp2_with fail
  refine c.mono ?_
  rintro e w1 ⟨rfl, rfl⟩
  go_wp2
  go_ret
  exact ⟨rfl, rfl⟩
end Go.Proofs.YtldjiieckddhkaaGreatDoor
