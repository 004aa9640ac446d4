/- Stage 10, plain: what is resolved, and what is folded, has the type that was asked for. | Stage 10, plain: what is folded has the same type; two expressions put together fold to what the operation makes of theirs. -/
import Derived.Test.YtldjiieckddhkaaGreatDoorMg15
namespace Go.Proofs.YtldjiieckddhkaaGreatDoor
theorem in_flat {P : Pt → Prop} : ∀ {e : Ex}, (∀ p ∈ flat e, p.kind = 1 → P p) → InT P e
  | .leaf p, h => h p (by simp [flat])
  | .one p e, h => in_flat (e := e) fun q hq => h q (by simp [flat, hq])
  | .two p a b, h => ⟨in_flat (e := a) fun q hq => h q (by simp [flat, hq]), in_flat (e := b) fun q hq => h q (by simp [flat, hq])⟩
theorem flat_in {P : Pt → Prop} : ∀ {e : Ex}, well e → InT P e → ∀ p ∈ flat e, p.kind = 1 → P p
  | .leaf p, _, h, q, hq, hk => by
    rw [flat, List.mem_singleton] at hq
    subst hq; exact h hk
  | .one p e, hw, h, q, hq, hk => by
    rw [flat, List.mem_append, List.mem_singleton] at hq
    rcases hq with hq | rfl
    · exact flat_in (e := e) hw.2.2 h q hq hk
    · exact absurd hk (takes_num (by rw [hw.1]; decide))
  | .two p a b, hw, h, q, hq, hk => by
    rw [flat, List.mem_append, List.mem_append, List.mem_singleton] at hq
    rcases hq with hq | hq | rfl
    · exact flat_in (e := a) hw.2.2.1 h.1 q hq hk
    · exact flat_in (e := b) hw.2.2.2 h.2 q hq hk
    · exact absurd hk (takes_num (by rw [hw.1]; decide))
theorem idx_fits {l : List Pt} : (idxT l = 2 ∧ ∀ p ∈ l, p.kind = 1 → fit6 2 p.n = true) ∨ idxT l = 3 := by
  unfold idxT
  split
  · rename_i h
    refine .inl ⟨rfl, fun p hp hk => ?_⟩
    have := List.all_eq_true.1 h p hp
    rw [decide_eq_true hk] at this
    simpa using this
  · exact .inr rfl
/-- what is said of a tree that is resolved -/
structure Rt (vs : List Vr) (e r : Ex) (t : Int) : Prop where
  kind : evT (partK vs) r = .ok (kT t)
  wel : well r
  typed : InT (fun p => p.t ≠ 0) r
  deps : dep r = dep e
def kid (u : Kd) (A : Int) (r : Ex) : Ex := if u.typ = 0 then giveT A r else r
theorem kid_ok {vs : List Vr} (hv : vOk vs) {a : Ex} {u : Kd} (hw : well a) (hu : evT (partK vs) a = .ok u) (ih : u.typ ≠ 0 → Rt vs a (resE vs a) u.typ) {A T : Int}
    (h : (u.typ ≠ 0 ∧ T = u.typ) ∨ (u.typ = 0 ∧ A = T ∧ (T = 2 ∨ T = 3) ∧ InT (fun p => fit6 T p.n = true) a)) : Rt vs a (kid u A (resE vs a)) T := by
  rcases h with ⟨h0, rfl⟩ | ⟨h0, rfl, hT, hi⟩
  · rw [kid, if_neg h0]; exact ih h0
  · obtain ⟨hb, -, hres⟩ := bare hv hw hu h0
    rw [kid, if_pos h0, hres]
    obtain ⟨h1, h2, h3⟩ := give_kind vs hT hb hw hi
    exact ⟨h1, h2, h3, give_dep _ _⟩
theorem fits_kid {vs : List Vr} (hv : vOk vs) {a : Ex} {u : Kd} (hw : well a) (hu : evT (partK vs) a = .ok u) {A T : Int} (hf : kFits u T = 0) (hA : u.typ = 0 → A = T) :
    (u.typ ≠ 0 ∧ T = u.typ) ∨ (u.typ = 0 ∧ A = T ∧ (T = 2 ∨ T = 3) ∧ InT (fun p => fit6 T p.n = true) a) := by
  rcases kFits_inv hf with ⟨h0, h1⟩ | ⟨h0, hT, hl, hh⟩
  · refine .inl ⟨h0, ?_⟩
    rw [h1]; rfl
  · obtain ⟨-, hi, -⟩ := bare hv hw hu h0
    exact .inr ⟨h0, hA h0, hT, hi.mono fun p hp => fit_mid hT hl hh hp.1 hp.2⟩
theorem typed_tree {vs : List Vr} (hv : vOk vs) : ∀ {e : Ex} {k : Kd}, well e → evT (partK vs) e = .ok k → k.typ ≠ 0 → Rt vs e (resE vs e) k.typ
  | .leaf p, k, hw, h, h0 => by
    rcases leaf_kind hv hw.1 hw.2 h with ⟨-, -, rfl⟩ | ⟨h1, h2, -⟩
    · exact absurd rfl h0
    · exact ⟨by rw [← h2]; exact h, hw, h1, rfl⟩
  | .one p a, k, hw, h, h0 => by
    obtain ⟨u, hu, hp⟩ := ev1_inv h
    have ih := fun hu0 => typed_tree hv hw.2.2 hu hu0
    have er : resE vs (.one p a) = .one p (kid u (askT p [u.typ] k.typ (flat (resE vs a))) (resE vs a)) := by
      show Ex.one p (if (kt vs a).typ = 0 then giveT (askT p [(kt vs a).typ] (kt vs (.one p a)).typ (flat (resE vs a))) (resE vs a) else resE vs a) = _
      rw [kt_ok hu, kt_ok h]; rfl
    rw [er]
    have fin : ∀ T, Rt vs a (kid u (askT p [u.typ] k.typ (flat (resE vs a))) (resE vs a)) T → partK vs p [kT T] = .ok (kT k.typ) → Rt vs (.one p a) (.one p (kid u (askT p [u.typ] k.typ (flat (resE vs a))) (resE vs a))) k.typ :=
      fun T hT hk => ⟨by rw [ev1_mk hT.kind]; exact hk, ⟨hw.1, hw.2.1, hT.wel⟩, hT.typed, by show dep _ + 1 = dep a + 1; rw [hT.deps]⟩
    rcases one_kind hv hw.1 hw.2.1 hp with ⟨h5, hn, hp⟩ | ⟨h3, ha, ⟨v, hf, hk⟩, -⟩ | ⟨h6, ha, hk, -⟩
    · rcases opK_inv hp with ⟨-, -, -, rfl⟩ | ⟨hr, hf, -, rfl, hno⟩
      · exact absurd rfl h0
      · have hu0 : u.typ ≠ 0 := fun e0 => hno ⟨e0, e0, by
          rcases res_three (op := p.n) (by omega) with ⟨h, -⟩ | ⟨-, -, h⟩
          · rw [h]
          · omega⟩
        have hT : tyOr u (tyOr u 3) = u.typ := by unfold tyOr; rw [if_neg hu0]
        rw [hT] at hr
        have : (kT (Four.resN p.n (tyOr u (tyOr u 3))).1).typ = (Four.resN p.n u.typ).1 := by rw [hT]; rfl
        refine fin u.typ (kid_ok hv hw.2.2 hu ih (.inl ⟨hu0, rfl⟩)) ?_
        rw [this, partK_five h5]
        exact opK_typed hu0 hr
    · -- an index
      have ask : askT p [u.typ] k.typ (flat (resE vs a)) = idxT (flat (resE vs a)) := by unfold askT; rw [if_pos h3]
      have pk : ∀ T, T = 2 ∨ T = 3 → partK vs p [kT T] = .ok (kT k.typ) := fun T hT => by
        have hA : kAmong (kT T) [2] = 0 := by rcases hT with rfl | rfl <;> decide
        unfold partK
        rw [if_neg (by omega), if_neg (by omega), if_pos h3, hf]
        show (if kAmong (kT T) [2] ≠ 0 then Except.error (kAmong (kT T) [2]) else Except.ok (kT v.ty)) = _
        rw [if_neg (by rw [hA]; decide), hk]; rfl
      by_cases hu0 : u.typ = 0
      · obtain ⟨hb, hi, hres⟩ := bare hv hw.2.2 hu hu0
        have h3f : kFits u 3 = 0 := by
          rcases kAmong_inv ha with ⟨t, ht, e⟩ | h
          · rw [List.mem_singleton] at ht; subst ht; rw [e] at hu0; exact absurd hu0 (by decide)
          · exact h
        rcases idx_fits (l := flat (resE vs a)) with ⟨e2, hall⟩ | e3
        · rw [hres] at hall
          exact fin 2 (kid_ok hv hw.2.2 hu ih (.inr ⟨hu0, by rw [ask, e2], .inl rfl, in_flat hall⟩)) (pk 2 (.inl rfl))
        · exact fin 3 (kid_ok hv hw.2.2 hu ih (fits_kid hv hw.2.2 hu h3f fun _ => by rw [ask, e3])) (pk 3 (.inr rfl))
      · have h23 : u.typ = 2 ∨ u.typ = 3 := by
          rcases kAmong_inv ha with ⟨t, ht, e⟩ | h
          · rw [List.mem_singleton] at ht; subst ht; rw [e]; exact .inl rfl
          · rcases kFits_inv h with ⟨-, e⟩ | ⟨e, -⟩
            · rw [e]; exact .inr rfl
            · exact absurd e hu0
        exact fin u.typ (kid_ok hv hw.2.2 hu ih (.inl ⟨hu0, rfl⟩)) (pk _ h23)
    · -- a conversion
      have ask : askT p [u.typ] k.typ (flat (resE vs a)) = 3 := by unfold askT; rw [if_neg (by omega), if_pos h6]
      have pk : ∀ T, T = 2 ∨ T = 3 ∨ T = 4 → partK vs p [kT T] = .ok (kT k.typ) := fun T hT => by
        have hA : kAmong (kT T) [2, 4] = 0 := by rcases hT with rfl | rfl | rfl <;> decide
        unfold partK
        rw [if_neg (by omega), if_neg (by omega), if_neg (by omega), if_neg (by omega), if_pos h6]
        show (if kAmong (kT T) [2, 4] ≠ 0 then Except.error (kAmong (kT T) [2, 4]) else Except.ok (kT p.t)) = _
        rw [if_neg (by rw [hA]; decide), hk]; rfl
      by_cases hu0 : u.typ = 0
      · have h3f : kFits u 3 = 0 := by
          rcases kAmong_inv ha with ⟨t, ht, e⟩ | h
          · rw [e] at hu0
            simp only [List.mem_cons, List.not_mem_nil, or_false] at ht
            rcases ht with rfl | rfl
            · exact absurd hu0 (by decide)
            · exact absurd hu0 (by decide)
          · exact h
        exact fin 3 (kid_ok hv hw.2.2 hu ih (fits_kid hv hw.2.2 hu h3f fun _ => ask)) (pk 3 (.inr (.inl rfl)))
      · have h234 : u.typ = 2 ∨ u.typ = 3 ∨ u.typ = 4 := by
          rcases kAmong_inv ha with ⟨t, ht, e⟩ | h
          · rw [e]
            simp only [List.mem_cons, List.not_mem_nil, or_false] at ht
            rcases ht with rfl | rfl
            · exact .inl rfl
            · exact .inr (.inr rfl)
          · rcases kFits_inv h with ⟨-, e⟩ | ⟨e, -⟩
            · rw [e]; exact .inr (.inl rfl)
            · exact absurd e hu0
        exact fin u.typ (kid_ok hv hw.2.2 hu ih (.inl ⟨hu0, rfl⟩)) (pk _ h234)
  | .two p a b, k, hw, h, h0 => by
    obtain ⟨u, u', hu, hu', hp⟩ := ev2_inv h
    have ih := fun hu0 => typed_tree hv hw.2.2.1 hu hu0
    have ih' := fun hu0 => typed_tree hv hw.2.2.2 hu' hu0
    obtain ⟨h5, hn⟩ := two_kind hw.1 hw.2.1
    have er : resE vs (.two p a b) = .two p (kid u (askT p [u.typ, u'.typ] k.typ (flat (resE vs a))) (resE vs a)) (kid u' (askT p [u.typ, u'.typ] k.typ (flat (resE vs b))) (resE vs b)) := by
      show Ex.two p (if (kt vs a).typ = 0 then giveT (askT p [(kt vs a).typ, (kt vs b).typ] (kt vs (.two p a b)).typ (flat (resE vs a))) (resE vs a) else resE vs a) (if (kt vs b).typ = 0 then giveT (askT p [(kt vs a).typ, (kt vs b).typ] (kt vs (.two p a b)).typ (flat (resE vs b))) (resE vs b) else resE vs b) = _
      rw [kt_ok hu, kt_ok hu', kt_ok h]; rfl
    rw [er]
    replace hp : opK p.n u u' = .ok k := by rw [partK_five h5] at hp; exact hp
    rcases opK_inv hp with ⟨-, -, -, rfl⟩ | ⟨hr, hf, hf', rfl, -⟩
    · exact absurd rfl h0
    · have hr : (Four.resN p.n (tyOr u (tyOr u' 3))).2 = 0 := hr
      have hf : kFits u (tyOr u (tyOr u' 3)) = 0 := hf
      have hf' : kFits u' (tyOr u (tyOr u' 3)) = 0 := hf'
      have hkf := k_form hv hw.2.2.1 hu
      have hkf' := k_form hv hw.2.2.2 hu'
      have ht := tyOr_pos (l := u) (r := u') (fun h => (hkf h).2) (fun h => (hkf' h).2)
      have hm : (kT (Four.resN p.n (tyOr u (tyOr u' 3))).1).typ ≠ 0 := h0
      have ask : ∀ l, u.typ = 0 ∨ u'.typ = 0 → askT p [u.typ, u'.typ] (kT (Four.resN p.n (tyOr u (tyOr u' 3))).1).typ l = tyOr u (tyOr u' 3) := fun l h00 => by
        unfold askT
        rw [if_neg (by omega), if_neg (by omega), if_neg hm]
        show (if max u.typ u'.typ = 0 then 3 else max u.typ u'.typ) = _
        unfold tyOr
        by_cases e : u.typ = 0
        · rw [if_pos e, e]
          by_cases e' : u'.typ = 0
          · rw [if_pos e', e']; rfl
          · rw [if_neg e', if_neg (by have := (hkf' e').2; omega)]
            have := (hkf' e').2; omega
        · rw [if_neg e]
          have e' : u'.typ = 0 := by rcases h00 with h | h; exact absurd h e; exact h
          rw [e', if_neg (by have := (hkf e).2; omega)]
          have := (hkf e).2; omega
      have r1 := kid_ok hv hw.2.2.1 hu ih (A := askT p [u.typ, u'.typ] (kT (Four.resN p.n (tyOr u (tyOr u' 3))).1).typ (flat (resE vs a))) (fits_kid hv hw.2.2.1 hu hf fun e => ask _ (.inl e))
      have r2 := kid_ok hv hw.2.2.2 hu' ih' (A := askT p [u.typ, u'.typ] (kT (Four.resN p.n (tyOr u (tyOr u' 3))).1).typ (flat (resE vs b))) (fits_kid hv hw.2.2.2 hu' hf' fun e => ask _ (.inr e))
      refine ⟨?_, ⟨hw.1, hw.2.1, r1.wel, r2.wel⟩, ⟨r1.typed, r2.typed⟩, ?_⟩
      · rw [ev2_mk r1.kind r2.kind, partK_five h5]
        exact opK_typed (by omega) hr
      · show max (dep _) (dep _) + 1 = max (dep b) (dep a) + 1
        rw [r1.deps, r2.deps]
/-- the program's way: kinds, and parts with the types that they have as yet -/
theorem evR_tree {vs : List Vr} (hv : vOk vs) : ∀ {e : Ex} {k : Kd}, well e → evT (partK vs) e = .ok k → evT (partR vs) e = .ok ⟨k, flat (resE vs e)⟩
  | .leaf p, k, hw, h => by
    show partR vs p [] = _
    have h' : partK vs p [] = .ok k := h
    unfold partR
    rw [show ([] : List Vl).map (·.k) = [] from rfl, h']
    rfl
  | .one p a, k, hw, h => by
    obtain ⟨u, hu, hp⟩ := ev1_inv h
    rw [ev1_mk (evR_tree hv hw.2.2 hu)]
    unfold partR
    rw [show [(⟨u, flat (resE vs a)⟩ : Vl)].map (·.k) = [u] from rfl, hp]
    show Except.ok (Vl.mk k ((resV p [u.typ] k.typ ⟨u, flat (resE vs a)⟩ ++ []) ++ [p])) = Except.ok (Vl.mk k (flat (.one p (if (kt vs a).typ = 0 then giveT (askT p [(kt vs a).typ] (kt vs (.one p a)).typ (flat (resE vs a))) (resE vs a) else resE vs a))))
    rw [kt_ok hu, kt_ok h, List.append_nil]
    unfold resV
    by_cases h0 : u.typ = 0
    · obtain ⟨-, -, hres⟩ := bare hv hw.2.2 hu h0
      rw [if_pos h0, if_pos h0, hres, flat, give_flat _ hw.2.2]
    · rw [if_neg h0, if_neg h0]; rfl
  | .two p a b, k, hw, h => by
    obtain ⟨u, u', hu, hu', hp⟩ := ev2_inv h
    rw [ev2_mk (evR_tree hv hw.2.2.1 hu) (evR_tree hv hw.2.2.2 hu')]
    unfold partR
    rw [show [(⟨u, flat (resE vs a)⟩ : Vl), ⟨u', flat (resE vs b)⟩].map (·.k) = [u, u'] from rfl, hp]
    show Except.ok (Vl.mk k ((resV p [u.typ, u'.typ] k.typ ⟨u, flat (resE vs a)⟩ ++ (resV p [u.typ, u'.typ] k.typ ⟨u', flat (resE vs b)⟩ ++ [])) ++ [p])) = Except.ok (Vl.mk k (flat (.two p
      (if (kt vs a).typ = 0 then giveT (askT p [(kt vs a).typ, (kt vs b).typ] (kt vs (.two p a b)).typ (flat (resE vs a))) (resE vs a) else resE vs a)
      (if (kt vs b).typ = 0 then giveT (askT p [(kt vs a).typ, (kt vs b).typ] (kt vs (.two p a b)).typ (flat (resE vs b))) (resE vs b) else resE vs b))))
    rw [kt_ok hu, kt_ok hu', kt_ok h, List.append_nil, List.append_assoc]
    unfold resV
    have e1 : (if (Vl.mk u (flat (resE vs a))).k.typ = 0 then giveP (askT p [u.typ, u'.typ] k.typ (flat (resE vs a))) (flat (resE vs a)) else flat (resE vs a)) = flat (if u.typ = 0 then giveT (askT p [u.typ, u'.typ] k.typ (flat (resE vs a))) (resE vs a) else resE vs a) := by
      by_cases h0 : u.typ = 0
      · obtain ⟨-, -, hres⟩ := bare hv hw.2.2.1 hu h0
        rw [if_pos h0, if_pos h0, hres, give_flat _ hw.2.2.1]
      · rw [if_neg h0, if_neg h0]
    have e2 : (if (Vl.mk u' (flat (resE vs b))).k.typ = 0 then giveP (askT p [u.typ, u'.typ] k.typ (flat (resE vs b))) (flat (resE vs b)) else flat (resE vs b)) = flat (if u'.typ = 0 then giveT (askT p [u.typ, u'.typ] k.typ (flat (resE vs b))) (resE vs b) else resE vs b) := by
      by_cases h0 : u'.typ = 0
      · obtain ⟨-, -, hres⟩ := bare hv hw.2.2.2 hu' h0
        rw [if_pos h0, if_pos h0, hres, give_flat _ hw.2.2.2]
      · rw [if_neg h0, if_neg h0]
    rw [e1, e2]; rfl
/-- resolved for a type that it fits -/
def endE (vs : List Vr) (e : Ex) (t : Int) : Ex := kid (kt vs e) t (resE vs e)
theorem res_tree {vs : List Vr} (hv : vOk vs) {e : Ex} {k : Kd} {t : Int} (hw : well e) (h : evT (partK vs) e = .ok k) (hf : kFits k t = 0) :
    Rt vs e (endE vs e t) t ∧ resP vs (flat e) t = flat (endE vs e t) := by
  have r := kid_ok hv hw h (typed_tree hv hw h) (fits_kid hv hw h hf (A := t) fun _ => rfl)
  unfold endE
  rw [kt_ok h]
  refine ⟨r, ?_⟩
  unfold resP
  rw [run_tree _ hw, evR_tree hv hw h]
  show endR t ⟨k, flat (resE vs e)⟩ = _
  unfold endR kid
  by_cases h0 : k.typ = 0
  · obtain ⟨-, -, hres⟩ := bare hv hw h h0
    rw [if_pos h0, if_pos h0, hres, give_flat _ hw]
  · rw [if_neg h0, if_neg h0]
end Go.Proofs.YtldjiieckddhkaaGreatDoor
namespace Go.Proofs.YtldjiieckddhkaaGreatDoor
theorem fit_same (t n : Int) : Four.fitB t n = fit6 t n := by
  unfold Four.fitB fit6 Four.tyB Four.szN
  by_cases h1 : t = 1
  · rw [if_pos h1, if_pos h1]
  rw [if_neg h1, if_neg h1]
  by_cases h2 : t = 2
  · subst h2
    rw [if_pos rfl, if_pos rfl]
    rw [Bool.eq_iff_iff]; simp; omega
  rw [if_neg h2, if_neg h2]
  by_cases h34 : t = 3 ∨ t = 4
  · rw [if_pos h34]
    have a : decide (1 ≤ t) = true := decide_eq_true (by omega)
    have b : decide (t ≤ 4) = true := decide_eq_true (by omega)
    rw [a, b, Bool.eq_iff_iff]; simp; omega
  · rw [if_neg h34]
    have : (decide (1 ≤ t) && decide (t ≤ 4)) = false := by
      cases h : (decide (1 ≤ t) && decide (t ≤ 4)) with
      | false => rfl
      | true =>
        rw [Bool.and_eq_true] at h
        have := of_decide_eq_true h.1; have := of_decide_eq_true h.2; omega
    rw [this]; rfl
def numOf : Ex → Option Pt
  | .leaf p => if p.kind = 1 then some p else none
  | _ => none
def foldE : Ex → Ex
  | .leaf p => .leaf p
  | .one p a => match numOf (foldE a) with
    | none => .one p (foldE a)
    | some n => match reckP p [n] with
      | some q => .leaf q
      | none => .one p (foldE a)
  | .two p a b => match numOf (foldE a), numOf (foldE b) with
    | some n, some m => (match reckP p [n, m] with
      | some q => .leaf q
      | none => .two p (foldE a) (foldE b))
    | _, _ => .two p (foldE a) (foldE b)
theorem num_of {e : Ex} {n : Pt} (h : numOf e = some n) : e = .leaf n ∧ n.kind = 1 := by
  cases e with
  | leaf p =>
    by_cases hk : p.kind = 1
    · rw [numOf, if_pos hk] at h; rw [← Option.some.inj h]; exact ⟨rfl, hk⟩
    · rw [numOf, if_neg hk] at h; exact absurd h (by simp)
  | one p a => exact absurd h (by simp [numOf])
  | two p a b => exact absurd h (by simp [numOf])
theorem flat_pos : ∀ e : Ex, 1 ≤ (flat e).length
  | .leaf _ => by simp [flat]
  | .one _ _ => by simp [flat]
  | .two _ _ _ => by simp [flat]; omega
/-- a tree of one part is a leaf -/
theorem flat_one {e : Ex} (h : (flat e).length = 1) : ∃ p, e = .leaf p := by
  cases e with
  | leaf p => exact ⟨p, rfl⟩
  | one p a => have := flat_pos a; simp [flat] at h; rw [h] at this; simp at this
  | two p a b => have := flat_pos a; simp [flat] at h; omega
theorem num_none {e : Ex} {p : Pt} (h : numOf e = none) (h1 : (flat e).length = 1) (r : List Pt) : reckP p (flat e ++ r) = none := by
  obtain ⟨q, rfl⟩ := flat_one h1
  have hq : q.kind ≠ 1 := fun e => by rw [numOf, if_pos e] at h; exact absurd h (by simp)
  unfold reckP
  rw [if_pos]
  show List.any (q :: r) _ = true
  rw [List.any_cons, decide_eq_true hq]; rfl
theorem num_none' {e : Ex} {p n : Pt} (h : numOf e = none) (h1 : (flat e).length = 1) : reckP p (n :: flat e) = none := by
  obtain ⟨q, rfl⟩ := flat_one h1
  have hq : q.kind ≠ 1 := fun e => by rw [numOf, if_pos e] at h; exact absurd h (by simp)
  unfold reckP
  rw [if_pos]
  show List.any [n, q] _ = true
  rw [List.any_cons, List.any_cons, decide_eq_true hq, Bool.true_or, Bool.or_true]
theorem reck_leaf (p : Pt) : reckP p [] = none := by
  unfold reckP
  rw [if_neg (by simp)]
  split
  · rfl
  split
  · rfl
  · rfl
theorem foldE_flat : ∀ {e : Ex}, well e → foldT e = flat (foldE e)
  | .leaf p, _ => by
    rw [foldT_leaf]
    unfold segF
    rw [if_pos (show (([] : List (List Pt)).all fun s => decide (s.length = 1)) = true from rfl), show ([] : List (List Pt)).flatten = [] from rfl, reck_leaf]; rfl
  | .one p a, h => by
    rw [foldT_one, foldE_flat h.2.2]
    unfold segF
    show (if (decide ((flat (foldE a)).length = 1) && true) = true then _ else _) = _
    rw [show ([flat (foldE a)] : List (List Pt)).flatten = flat (foldE a) from by simp]
    rw [foldE]
    cases hn : numOf (foldE a) with
    | none =>
      show _ = flat (foldE a) ++ [p]
      split
      · rename_i h1
        rw [Bool.and_true] at h1
        have := num_none (p := p) hn (of_decide_eq_true h1) []
        rw [List.append_nil] at this
        rw [this]
      · rfl
    | some n =>
      obtain ⟨e1, hk⟩ := num_of hn
      rw [e1]
      show (match reckP p [n] with | some q => [q] | none => [n] ++ [p]) = flat (match reckP p [n] with | some q => .leaf q | none => .one p (.leaf n))
      cases reckP p [n] <;> rfl
  | .two p a b, h => by
    rw [foldT_two, foldE_flat h.2.2.1, foldE_flat h.2.2.2]
    unfold segF
    show (if (decide ((flat (foldE a)).length = 1) && (decide ((flat (foldE b)).length = 1) && true)) = true then _ else _) = _
    rw [show ([flat (foldE a), flat (foldE b)] : List (List Pt)).flatten = flat (foldE a) ++ flat (foldE b) from by simp, List.append_assoc, foldE]
    cases hn : numOf (foldE a) with
    | none =>
      show _ = flat (foldE a) ++ (flat (foldE b) ++ [p])
      split
      · rename_i h1
        rw [Bool.and_eq_true] at h1
        rw [num_none hn (of_decide_eq_true h1.1)]
      · rfl
    | some n =>
      obtain ⟨e1, hk⟩ := num_of hn
      rw [e1]
      cases hm : numOf (foldE b) with
      | none =>
        show _ = flat (.leaf n) ++ (flat (foldE b) ++ [p])
        split
        · rename_i h1
          rw [Bool.and_eq_true, Bool.and_true] at h1
          rw [show flat (.leaf n) ++ flat (foldE b) = n :: flat (foldE b) from rfl, num_none' hm (of_decide_eq_true h1.2)]
        · rfl
      | some m =>
        obtain ⟨e2, hk'⟩ := num_of hm
        rw [e2]
        show (match reckP p [n, m] with | some q => [q] | none => [n] ++ ([m] ++ [p])) = flat (match reckP p [n, m] with | some q => .leaf q | none => .two p (.leaf n) (.leaf m))
        cases reckP p [n, m] <;> rfl
theorem foldP_flat {e : Ex} (h : well e) : foldP (flat e) = flat (foldE e) := (foldP_tree h).trans (foldE_flat h)
/-- a number of a type that it fits -/
theorem num_leaf (vs : List Vr) {n t : Int} (h : fit6 t n = true) : evT (partK vs) (.leaf (numP n t)) = .ok (kT t) ∧ well (.leaf (numP n t)) ∧ InT (fun p => p.t ≠ 0) (.leaf (numP n t)) := by
  have t0 : t ≠ 0 := by have := fit_t h; omega
  refine ⟨?_, ⟨rfl, ?_⟩, fun _ => t0⟩
  · show partK vs (numP n t) [] = _
    rw [partK_num rfl]
    show Except.ok (if t = 0 then (⟨0, n, n⟩ : Kd) else kT t) = _
    rw [if_neg t0]
  · unfold mayP
    rw [if_pos (show (numP n t).kind = 1 from rfl)]
    show (true && (true && if t = 0 then _ else fit6 t n)) = true
    rw [if_neg t0, h]; rfl
/-- what is known of a number that has a type -/
theorem leaf_num {vs : List Vr} {n : Pt} {k : Kd} (hk : n.kind = 1) (h : evT (partK vs) (.leaf n) = .ok k) (hw : well (.leaf n)) (ht : InT (fun p => p.t ≠ 0) (.leaf n)) : k = kT n.t ∧ fit6 n.t n.n = true ∧ n.t ≠ 0 ∧ n = numP n.n n.t := by
  have h' : partK vs n [] = .ok k := h
  have t0 : n.t ≠ 0 := ht hk
  rw [partK_num hk, if_neg t0] at h'
  obtain ⟨hs, hf, hfit⟩ := mayp_num hk hw.2
  refine ⟨(Except.ok.inj h').symm, ?_, t0, ?_⟩
  · rcases hfit with e | e
    · exact absurd e t0
    · exact e
  · cases n; cases hk; cases hs; cases hf; rfl
theorem one_fits {op t a : Int} (ha : fit6 t a = true) (h : (Four.oneN op t a).2 = 0) : fit6 (Four.resN op t).1 (Four.oneN op t a).1 = true ∧ (Four.resN op t).2 = 0 := by
  have hT := fit_t ha
  unfold Four.oneN at h ⊢
  rw [fit_same, ha] at h ⊢
  cases ho : Four.has1 op t with
  | false => rw [ho, if_pos rfl] at h; exact absurd h (by decide)
  | true =>
    rw [if_neg (by decide), if_neg (by decide)]
    have hop : op = 15 ∨ op = 16 := by
      unfold Four.has1 at ho
      simp only [Bool.and_eq_true, Bool.or_eq_true, decide_eq_true_eq] at ho
      rcases ho.2 with h | h
      · exact .inl h.1
      · exact .inr h.1
    have hr : Four.resN op t = (t, 0) := by
      unfold Four.resN
      rw [ho, if_neg (by simp), if_neg (by omega)]
    rw [hr]
    refine ⟨?_, rfl⟩
    have ht : Four.tyB t = true := by unfold Four.tyB; rw [decide_eq_true hT.1, decide_eq_true hT.2]; rfl
    rcases hop with rfl | rfl
    · rw [if_pos rfl, ← fit_same]; exact Four.fit_wr ht _
    · rw [if_neg (by decide)]
      by_cases h1 : t = 1
      · rw [if_pos h1]
        subst h1
        rw [← fit_same] at ha ⊢
        rcases Four.fit_one ha with rfl | rfl <;> decide
      · rw [if_neg h1, ← fit_same]; exact Four.fit_wr ht _
theorem conv_fits {f t a : Int} (h : (Four.convN f t a).2 = 0) : fit6 t (Four.convN f t a).1 = true := by
  unfold Four.convN at h ⊢
  split
  · rename_i h1; rw [if_pos h1] at h; exact absurd h (by decide)
  · rename_i h1
    rw [if_neg h1] at h
    split
    · rename_i h2; rw [if_pos h2] at h; exact absurd h (by decide)
    · rw [← fit_same]
      refine Four.fit_wr ?_ _
      cases e : Four.tyB t with
      | true => rfl
      | false => exact absurd (.inr (.inl e)) h1
theorem two_fits6 {op t a b : Int} (ha : fit6 t a = true) (hb : fit6 t b = true) (h : (Four.twoN op t a b).2 = 0) : fit6 (Four.resN op t).1 (Four.twoN op t a b).1 = true ∧ (Four.resN op t).2 = 0 := by
  rw [← fit_same] at ha hb
  rcases Four.two_fits op t a b ha hb with h' | h' | h'
  · rw [h'] at h; exact absurd h (by decide)
  · rw [h'] at h; exact absurd h (by decide)
  · rw [← fit_same]; exact ⟨h'.2.2, h'.2.1⟩
/-- what is said of a tree that is folded -/
structure Ft (vs : List Vr) (e r : Ex) (k : Kd) : Prop where
  kind : evT (partK vs) r = .ok k
  wel : well r
  typed : InT (fun p => p.t ≠ 0) r
  deps : dep r ≤ dep e
theorem dep_pos : ∀ e : Ex, 1 ≤ dep e
  | .leaf _ => Nat.le_refl _
  | .one _ e => by show 1 ≤ dep e + 1; omega
  | .two _ a b => by show 1 ≤ max (dep b) (dep a) + 1; omega
theorem reck_form {p q : Pt} {on : List Pt} (h : reckP p on = some q) : (p.kind = 6 ∧ ∃ a r, on = a :: r ∧ (Four.convN a.t p.t a.n).2 = 0 ∧ q = numP (Four.convN a.t p.t a.n).1 p.t) ∨
    (p.kind = 5 ∧ ((∃ a, on = [a] ∧ (Four.oneN p.n a.t a.n).2 = 0 ∧ q = numP (Four.oneN p.n a.t a.n).1 (Four.resN p.n a.t).1) ∨
      (∃ a b r, on = a :: b :: r ∧ (Four.twoN p.n a.t a.n b.n).2 = 0 ∧ q = numP (Four.twoN p.n a.t a.n b.n).1 (Four.resN p.n a.t).1))) := by
  unfold reckP at h
  split at h
  · exact absurd h (by simp)
  split at h
  · rename_i h6
    split at h
    · split at h
      · rename_i e
        exact .inl ⟨h6, _, _, rfl, e, (Option.some.inj h).symm⟩
      · exact absurd h (by simp)
    · exact absurd h (by simp)
  split at h
  · rename_i h5
    split at h
    · split at h
      · rename_i e
        exact .inr ⟨h5, .inl ⟨_, rfl, e, (Option.some.inj h).symm⟩⟩
      · exact absurd h (by simp)
    · split at h
      · rename_i e
        exact .inr ⟨h5, .inr ⟨_, _, _, rfl, e, (Option.some.inj h).symm⟩⟩
      · exact absurd h (by simp)
    · exact absurd h (by simp)
  · exact absurd h (by simp)
theorem fold_kind {vs : List Vr} (hv : vOk vs) : ∀ {e : Ex} {k : Kd}, well e → evT (partK vs) e = .ok k → InT (fun p => p.t ≠ 0) e → Ft vs e (foldE e) k
  | .leaf p, k, hw, h, hi => ⟨h, hw, hi, Nat.le_refl _⟩
  | .one p a, k, hw, h, hi => by
    obtain ⟨u, hu, hp⟩ := ev1_inv h
    have ih := fold_kind hv hw.2.2 hu hi
    have plain : Ft vs (.one p a) (.one p (foldE a)) k := ⟨by rw [ev1_mk ih.kind]; exact hp, ⟨hw.1, hw.2.1, ih.wel⟩, ih.typed, by show dep _ + 1 ≤ dep a + 1; have := ih.deps; omega⟩
    rw [foldE]
    cases hn : numOf (foldE a) with
    | none => exact plain
    | some n =>
      show Ft vs (.one p a) (match reckP p [n] with | some q => .leaf q | none => .one p (foldE a)) k
      cases hr : reckP p [n] with
      | none => exact plain
      | some q =>
        obtain ⟨e1, hk⟩ := num_of hn
        have k1 := ih.kind
        have w1 := ih.wel
        have t1 := ih.typed
        rw [e1] at k1 w1 t1
        obtain ⟨rfl, hfit, t0, hnum⟩ := leaf_num hk k1 w1 t1
        have fin : ∀ {m t : Int}, q = numP m t → fit6 t m = true → k = kT t → Ft vs (.one p a) (.leaf q) k := fun {m t} hq hf hkt => by
          obtain ⟨h1, h2, h3⟩ := num_leaf vs hf
          rw [hq, hkt]; exact ⟨h1, h2, h3, by show 1 ≤ dep a + 1; omega⟩
        rcases reck_form hr with ⟨h6, a', r', ha', hc, hq⟩ | ⟨h5, ⟨a', ha', hc, hq⟩ | ⟨a', b', r', ha', -⟩⟩
        · obtain ⟨rfl, -⟩ := List.cons.inj ha'
          refine fin hq (conv_fits hc) ?_
          rcases one_kind hv hw.1 hw.2.1 hp with ⟨h5, -⟩ | ⟨h3, -⟩ | ⟨-, -, e, -⟩
          · omega
          · omega
          · exact e
        · obtain ⟨rfl, -⟩ := List.cons.inj ha'
          obtain ⟨hf, hr2⟩ := one_fits hfit hc
          refine fin hq hf ?_
          rw [partK_five h5] at hp
          have hp' : opK p.n (kT n.t) (kT n.t) = .ok k := hp
          rw [opK_typed t0 hr2] at hp'
          exact (Except.ok.inj hp').symm
        · exact absurd (congrArg List.length ha') (by simp)
  | .two p a b, k, hw, h, hi => by
    obtain ⟨u, u', hu, hu', hp⟩ := ev2_inv h
    have ih := fold_kind hv hw.2.2.1 hu hi.1
    have ih' := fold_kind hv hw.2.2.2 hu' hi.2
    have plain : Ft vs (.two p a b) (.two p (foldE a) (foldE b)) k := ⟨by rw [ev2_mk ih.kind ih'.kind]; exact hp, ⟨hw.1, hw.2.1, ih.wel, ih'.wel⟩, ⟨ih.typed, ih'.typed⟩, by show max _ _ + 1 ≤ max (dep b) (dep a) + 1; have := ih.deps; have := ih'.deps; omega⟩
    rw [foldE]
    cases hn : numOf (foldE a) with
    | none => exact plain
    | some n =>
      cases hm : numOf (foldE b) with
      | none => exact plain
      | some m =>
        show Ft vs (.two p a b) (match reckP p [n, m] with | some q => .leaf q | none => .two p (foldE a) (foldE b)) k
        cases hr : reckP p [n, m] with
        | none => exact plain
        | some q =>
          obtain ⟨e1, hk⟩ := num_of hn
          obtain ⟨e2, hk'⟩ := num_of hm
          have k1 := ih.kind
          have w1 := ih.wel
          have t1 := ih.typed
          rw [e1] at k1 w1 t1
          obtain ⟨rfl, hfit, t0, hnum⟩ := leaf_num hk k1 w1 t1
          have k2 := ih'.kind
          have w2 := ih'.wel
          have t2 := ih'.typed
          rw [e2] at k2 w2 t2
          obtain ⟨rfl, hfit', t0', hnum'⟩ := leaf_num hk' k2 w2 t2
          obtain ⟨h5, hno⟩ := two_kind hw.1 hw.2.1
          rcases reck_form hr with ⟨h6, -⟩ | ⟨-, ⟨a', ha', -⟩ | ⟨a', b', r', ha', hc, hq⟩⟩
          · omega
          · exact absurd (congrArg List.length ha') (by simp)
          · obtain ⟨rfl, hb'⟩ := List.cons.inj ha'
            obtain ⟨rfl, -⟩ := List.cons.inj hb'
            rw [partK_five h5] at hp
            have hp' : opK p.n (kT n.t) (kT m.t) = .ok k := hp
            have ht : m.t = n.t := by
              rcases opK_inv hp' with ⟨e, -⟩ | ⟨-, -, hf, -⟩
              · exact absurd e t0
              · have : tyOr (kT n.t) (tyOr (kT m.t) 3) = n.t := by unfold tyOr; rw [if_neg (show ¬ (kT n.t).typ = 0 from t0)]; rfl
                rw [this] at hf
                rcases kFits_inv hf with ⟨-, e⟩ | ⟨e, -⟩
                · exact congrArg Kd.typ e
                · exact absurd e t0'
            rw [ht] at hfit' hp'
            obtain ⟨hf, hr2⟩ := two_fits6 hfit hfit' hc
            obtain ⟨h1, h2, h3⟩ := num_leaf vs hf
            rw [opK_typed t0 hr2] at hp'
            rw [hq, ← Except.ok.inj hp']
            exact ⟨h1, h2, h3, by show 1 ≤ max (dep b) (dep a) + 1; omega⟩
end Go.Proofs.YtldjiieckddhkaaGreatDoor
