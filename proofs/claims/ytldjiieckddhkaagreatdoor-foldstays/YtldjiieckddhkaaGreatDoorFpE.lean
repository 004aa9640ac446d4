/- Stage 10, plain: what is resolved, and what is folded, has the type that was asked for. -/
import Derived.Test.YtldjiieckddhkaaGreatDoorMg16
namespace Go.Proofs.YtldjiieckddhkaaGreatDoor
theorem in_flat {P : Pt → Prop} : ∀ {e : Ex}, (∀ p ∈ flat e, p.kind = 1 → P p) → InT P e
  | .leaf p, h => h p (by simp [flat])
  | .one p e, h => in_flat (e := e) fun q hq => h q (by simp [flat, hq])
  | .two p a b, h => ⟨in_flat (e := a) fun q hq => h q (by simp [flat, hq]), in_flat (e := b) fun q hq => h q (by simp [flat, hq])⟩
theorem flat_in {P : Pt → Prop} : ∀ {e : Ex}, well e → InT P e → ∀ p ∈ flat e, p.kind = 1 → P p
  | .leaf p, _, h, q, hq, hk => by
    rw [flat, List.mem_singleton] at hq
    subst hq; exact h hk
  | .one p e, hw, h, q, hq, hk => by
    rw [flat, List.mem_append, List.mem_singleton] at hq
    rcases hq with hq | rfl
    · exact flat_in (e := e) hw.2.2 h q hq hk
    · exact absurd hk (takes_num (by rw [hw.1]; decide))
  | .two p a b, hw, h, q, hq, hk => by
    rw [flat, List.mem_append, List.mem_append, List.mem_singleton] at hq
    rcases hq with hq | hq | rfl
    · exact flat_in (e := a) hw.2.2.1 h.1 q hq hk
    · exact flat_in (e := b) hw.2.2.2 h.2 q hq hk
    · exact absurd hk (takes_num (by rw [hw.1]; decide))
theorem idx_fits {l : List Pt} : (idxT l = 2 ∧ ∀ p ∈ l, p.kind = 1 → fit6 2 p.n = true) ∨ idxT l = 3 := by
  unfold idxT
  split
  · rename_i h
    refine .inl ⟨rfl, fun p hp hk => ?_⟩
    have := List.all_eq_true.1 h p hp
    rw [decide_eq_true hk] at this
    simpa using this
  · exact .inr rfl
/-- what is said of a tree that is resolved -/
structure Rt (vs : List Vr) (e r : Ex) (t : Int) : Prop where
  kind : evT (partK vs) r = .ok (kT t)
  wel : well r
  typed : InT (fun p => p.t ≠ 0) r
  deps : dep r = dep e
def kid (u : Kd) (A : Int) (r : Ex) : Ex := if u.typ = 0 then giveT A r else r
theorem kid_ok {vs : List Vr} (hv : vOk vs) {a : Ex} {u : Kd} (hw : well a) (hu : evT (partK vs) a = .ok u) (ih : u.typ ≠ 0 → Rt vs a (resE vs a) u.typ) {A T : Int}
    (h : (u.typ ≠ 0 ∧ T = u.typ) ∨ (u.typ = 0 ∧ A = T ∧ (T = 2 ∨ T = 3) ∧ InT (fun p => fit6 T p.n = true) a)) : Rt vs a (kid u A (resE vs a)) T := by
  rcases h with ⟨h0, rfl⟩ | ⟨h0, rfl, hT, hi⟩
  · rw [kid, if_neg h0]; exact ih h0
  · obtain ⟨hb, -, hres⟩ := bare hv hw hu h0
    rw [kid, if_pos h0, hres]
    obtain ⟨h1, h2, h3⟩ := give_kind vs hT hb hw hi
    exact ⟨h1, h2, h3, give_dep _ _⟩
theorem fits_kid {vs : List Vr} (hv : vOk vs) {a : Ex} {u : Kd} (hw : well a) (hu : evT (partK vs) a = .ok u) {A T : Int} (hf : kFits u T = 0) (hA : u.typ = 0 → A = T) :
    (u.typ ≠ 0 ∧ T = u.typ) ∨ (u.typ = 0 ∧ A = T ∧ (T = 2 ∨ T = 3) ∧ InT (fun p => fit6 T p.n = true) a) := by
  rcases kFits_inv hf with ⟨h0, h1⟩ | ⟨h0, hT, hl, hh⟩
  · refine .inl ⟨h0, ?_⟩
    rw [h1]; rfl
  · obtain ⟨-, hi, -⟩ := bare hv hw hu h0
    exact .inr ⟨h0, hA h0, hT, hi.mono fun p hp => fit_mid hT hl hh hp.1 hp.2⟩
theorem typed_tree {vs : List Vr} (hv : vOk vs) : ∀ {e : Ex} {k : Kd}, well e → evT (partK vs) e = .ok k → k.typ ≠ 0 → Rt vs e (resE vs e) k.typ
  | .leaf p, k, hw, h, h0 => by
    rcases leaf_kind hv hw.1 hw.2 h with ⟨-, -, rfl⟩ | ⟨h1, h2, -⟩
    · exact absurd rfl h0
    · exact ⟨by rw [← h2]; exact h, hw, h1, rfl⟩
  | .one p a, k, hw, h, h0 => by
    obtain ⟨u, hu, hp⟩ := ev1_inv h
    have ih := fun hu0 => typed_tree hv hw.2.2 hu hu0
    have er : resE vs (.one p a) = .one p (kid u (askT p [u.typ] k.typ (flat (resE vs a))) (resE vs a)) := by
      show Ex.one p (if (kt vs a).typ = 0 then giveT (askT p [(kt vs a).typ] (kt vs (.one p a)).typ (flat (resE vs a))) (resE vs a) else resE vs a) = _
      rw [kt_ok hu, kt_ok h]; rfl
    rw [er]
    have fin : ∀ T, Rt vs a (kid u (askT p [u.typ] k.typ (flat (resE vs a))) (resE vs a)) T → partK vs p [kT T] = .ok (kT k.typ) → Rt vs (.one p a) (.one p (kid u (askT p [u.typ] k.typ (flat (resE vs a))) (resE vs a))) k.typ :=
      fun T hT hk => ⟨by rw [ev1_mk hT.kind]; exact hk, ⟨hw.1, hw.2.1, hT.wel⟩, hT.typed, by show dep _ + 1 = dep a + 1; rw [hT.deps]⟩
    rcases one_kind hv hw.1 hw.2.1 hp with ⟨h5, hn, hp⟩ | ⟨h3, ha, ⟨v, hf, hk⟩, -⟩ | ⟨h6, ha, hk, -⟩
    · rcases opK_inv hp with ⟨-, -, -, rfl⟩ | ⟨hr, hf, -, rfl, hno⟩
      · exact absurd rfl h0
      · have hu0 : u.typ ≠ 0 := fun e0 => hno ⟨e0, e0, by
          rcases res_three (op := p.n) (by omega) with ⟨h, -⟩ | ⟨-, -, h⟩
          · rw [h]
          · omega⟩
        have hT : tyOr u (tyOr u 3) = u.typ := by unfold tyOr; rw [if_neg hu0]
        rw [hT] at hr
        have : (kT (Four.resN p.n (tyOr u (tyOr u 3))).1).typ = (Four.resN p.n u.typ).1 := by rw [hT]; rfl
        refine fin u.typ (kid_ok hv hw.2.2 hu ih (.inl ⟨hu0, rfl⟩)) ?_
        rw [this, partK_five h5]
        exact opK_typed hu0 hr
    · -- an index
      have ask : askT p [u.typ] k.typ (flat (resE vs a)) = idxT (flat (resE vs a)) := by unfold askT; rw [if_pos h3]
      have pk : ∀ T, T = 2 ∨ T = 3 → partK vs p [kT T] = .ok (kT k.typ) := fun T hT => by
        have hA : kAmong (kT T) [2] = 0 := by rcases hT with rfl | rfl <;> decide
        unfold partK
        rw [if_neg (by omega), if_neg (by omega), if_pos h3, hf]
        show (if kAmong (kT T) [2] ≠ 0 then Except.error (kAmong (kT T) [2]) else Except.ok (kT v.ty)) = _
        rw [if_neg (by rw [hA]; decide), hk]; rfl
      by_cases hu0 : u.typ = 0
      · obtain ⟨hb, hi, hres⟩ := bare hv hw.2.2 hu hu0
        have h3f : kFits u 3 = 0 := by
          rcases kAmong_inv ha with ⟨t, ht, e⟩ | h
          · rw [List.mem_singleton] at ht; subst ht; rw [e] at hu0; exact absurd hu0 (by decide)
          · exact h
        rcases idx_fits (l := flat (resE vs a)) with ⟨e2, hall⟩ | e3
        · rw [hres] at hall
          exact fin 2 (kid_ok hv hw.2.2 hu ih (.inr ⟨hu0, by rw [ask, e2], .inl rfl, in_flat hall⟩)) (pk 2 (.inl rfl))
        · exact fin 3 (kid_ok hv hw.2.2 hu ih (fits_kid hv hw.2.2 hu h3f fun _ => by rw [ask, e3])) (pk 3 (.inr rfl))
      · have h23 : u.typ = 2 ∨ u.typ = 3 := by
          rcases kAmong_inv ha with ⟨t, ht, e⟩ | h
          · rw [List.mem_singleton] at ht; subst ht; rw [e]; exact .inl rfl
          · rcases kFits_inv h with ⟨-, e⟩ | ⟨e, -⟩
            · rw [e]; exact .inr rfl
            · exact absurd e hu0
        exact fin u.typ (kid_ok hv hw.2.2 hu ih (.inl ⟨hu0, rfl⟩)) (pk _ h23)
    · -- a conversion
      have ask : askT p [u.typ] k.typ (flat (resE vs a)) = 3 := by unfold askT; rw [if_neg (by omega), if_pos h6]
      have pk : ∀ T, T = 2 ∨ T = 3 ∨ T = 4 → partK vs p [kT T] = .ok (kT k.typ) := fun T hT => by
        have hA : kAmong (kT T) [2, 4] = 0 := by rcases hT with rfl | rfl | rfl <;> decide
        unfold partK
        rw [if_neg (by omega), if_neg (by omega), if_neg (by omega), if_neg (by omega), if_pos h6]
        show (if kAmong (kT T) [2, 4] ≠ 0 then Except.error (kAmong (kT T) [2, 4]) else Except.ok (kT p.t)) = _
        rw [if_neg (by rw [hA]; decide), hk]; rfl
      by_cases hu0 : u.typ = 0
      · have h3f : kFits u 3 = 0 := by
          rcases kAmong_inv ha with ⟨t, ht, e⟩ | h
          · rw [e] at hu0
            simp only [List.mem_cons, List.not_mem_nil, or_false] at ht
            rcases ht with rfl | rfl
            · exact absurd hu0 (by decide)
            · exact absurd hu0 (by decide)
          · exact h
        exact fin 3 (kid_ok hv hw.2.2 hu ih (fits_kid hv hw.2.2 hu h3f fun _ => ask)) (pk 3 (.inr (.inl rfl)))
      · have h234 : u.typ = 2 ∨ u.typ = 3 ∨ u.typ = 4 := by
          rcases kAmong_inv ha with ⟨t, ht, e⟩ | h
          · rw [e]
            simp only [List.mem_cons, List.not_mem_nil, or_false] at ht
            rcases ht with rfl | rfl
            · exact .inl rfl
            · exact .inr (.inr rfl)
          · rcases kFits_inv h with ⟨-, e⟩ | ⟨e, -⟩
            · rw [e]; exact .inr (.inl rfl)
            · exact absurd e hu0
        exact fin u.typ (kid_ok hv hw.2.2 hu ih (.inl ⟨hu0, rfl⟩)) (pk _ h234)
  | .two p a b, k, hw, h, h0 => by
    obtain ⟨u, u', hu, hu', hp⟩ := ev2_inv h
    have ih := fun hu0 => typed_tree hv hw.2.2.1 hu hu0
    have ih' := fun hu0 => typed_tree hv hw.2.2.2 hu' hu0
    obtain ⟨h5, hn⟩ := two_kind hw.1 hw.2.1
    have er : resE vs (.two p a b) = .two p (kid u (askT p [u.typ, u'.typ] k.typ (flat (resE vs a))) (resE vs a)) (kid u' (askT p [u.typ, u'.typ] k.typ (flat (resE vs b))) (resE vs b)) := by
      show Ex.two p (if (kt vs a).typ = 0 then giveT (askT p [(kt vs a).typ, (kt vs b).typ] (kt vs (.two p a b)).typ (flat (resE vs a))) (resE vs a) else resE vs a) (if (kt vs b).typ = 0 then giveT (askT p [(kt vs a).typ, (kt vs b).typ] (kt vs (.two p a b)).typ (flat (resE vs b))) (resE vs b) else resE vs b) = _
      rw [kt_ok hu, kt_ok hu', kt_ok h]; rfl
    rw [er]
    replace hp : opK p.n u u' = .ok k := by rw [partK_five h5] at hp; exact hp
    rcases opK_inv hp with ⟨-, -, -, rfl⟩ | ⟨hr, hf, hf', rfl, -⟩
    · exact absurd rfl h0
    · have hr : (Four.resN p.n (tyOr u (tyOr u' 3))).2 = 0 := hr
      have hf : kFits u (tyOr u (tyOr u' 3)) = 0 := hf
      have hf' : kFits u' (tyOr u (tyOr u' 3)) = 0 := hf'
      have hkf := k_form hv hw.2.2.1 hu
      have hkf' := k_form hv hw.2.2.2 hu'
      have ht := tyOr_pos (l := u) (r := u') (fun h => (hkf h).2) (fun h => (hkf' h).2)
      have hm : (kT (Four.resN p.n (tyOr u (tyOr u' 3))).1).typ ≠ 0 := h0
      have ask : ∀ l, u.typ = 0 ∨ u'.typ = 0 → askT p [u.typ, u'.typ] (kT (Four.resN p.n (tyOr u (tyOr u' 3))).1).typ l = tyOr u (tyOr u' 3) := fun l h00 => by
        unfold askT
        rw [if_neg (by omega), if_neg (by omega), if_neg hm]
        show (if max u.typ u'.typ = 0 then 3 else max u.typ u'.typ) = _
        unfold tyOr
        by_cases e : u.typ = 0
        · rw [if_pos e, e]
          by_cases e' : u'.typ = 0
          · rw [if_pos e', e']; rfl
          · rw [if_neg e', if_neg (by have := (hkf' e').2; omega)]
            have := (hkf' e').2; omega
        · rw [if_neg e]
          have e' : u'.typ = 0 := by rcases h00 with h | h; exact absurd h e; exact h
          rw [e', if_neg (by have := (hkf e).2; omega)]
          have := (hkf e).2; omega
      have r1 := kid_ok hv hw.2.2.1 hu ih (A := askT p [u.typ, u'.typ] (kT (Four.resN p.n (tyOr u (tyOr u' 3))).1).typ (flat (resE vs a))) (fits_kid hv hw.2.2.1 hu hf fun e => ask _ (.inl e))
      have r2 := kid_ok hv hw.2.2.2 hu' ih' (A := askT p [u.typ, u'.typ] (kT (Four.resN p.n (tyOr u (tyOr u' 3))).1).typ (flat (resE vs b))) (fits_kid hv hw.2.2.2 hu' hf' fun e => ask _ (.inr e))
      refine ⟨?_, ⟨hw.1, hw.2.1, r1.wel, r2.wel⟩, ⟨r1.typed, r2.typed⟩, ?_⟩
      · rw [ev2_mk r1.kind r2.kind, partK_five h5]
        exact opK_typed (by omega) hr
      · show max (dep _) (dep _) + 1 = max (dep b) (dep a) + 1
        rw [r1.deps, r2.deps]
/-- the program's way: kinds, and parts with the types that they have as yet -/
theorem evR_tree {vs : List Vr} (hv : vOk vs) : ∀ {e : Ex} {k : Kd}, well e → evT (partK vs) e = .ok k → evT (partR vs) e = .ok ⟨k, flat (resE vs e)⟩
  | .leaf p, k, hw, h => by
    show partR vs p [] = _
    have h' : partK vs p [] = .ok k := h
    unfold partR
    rw [show ([] : List Vl).map (·.k) = [] from rfl, h']
    rfl
  | .one p a, k, hw, h => by
    obtain ⟨u, hu, hp⟩ := ev1_inv h
    rw [ev1_mk (evR_tree hv hw.2.2 hu)]
    unfold partR
    rw [show [(⟨u, flat (resE vs a)⟩ : Vl)].map (·.k) = [u] from rfl, hp]
    show Except.ok (Vl.mk k ((resV p [u.typ] k.typ ⟨u, flat (resE vs a)⟩ ++ []) ++ [p])) = Except.ok (Vl.mk k (flat (.one p (if (kt vs a).typ = 0 then giveT (askT p [(kt vs a).typ] (kt vs (.one p a)).typ (flat (resE vs a))) (resE vs a) else resE vs a))))
    rw [kt_ok hu, kt_ok h, List.append_nil]
    unfold resV
    by_cases h0 : u.typ = 0
    · obtain ⟨-, -, hres⟩ := bare hv hw.2.2 hu h0
      rw [if_pos h0, if_pos h0, hres, flat, give_flat _ hw.2.2]
    · rw [if_neg h0, if_neg h0]; rfl
  | .two p a b, k, hw, h => by
    obtain ⟨u, u', hu, hu', hp⟩ := ev2_inv h
    rw [ev2_mk (evR_tree hv hw.2.2.1 hu) (evR_tree hv hw.2.2.2 hu')]
    unfold partR
    rw [show [(⟨u, flat (resE vs a)⟩ : Vl), ⟨u', flat (resE vs b)⟩].map (·.k) = [u, u'] from rfl, hp]
    show Except.ok (Vl.mk k ((resV p [u.typ, u'.typ] k.typ ⟨u, flat (resE vs a)⟩ ++ (resV p [u.typ, u'.typ] k.typ ⟨u', flat (resE vs b)⟩ ++ [])) ++ [p])) = Except.ok (Vl.mk k (flat (.two p
      (if (kt vs a).typ = 0 then giveT (askT p [(kt vs a).typ, (kt vs b).typ] (kt vs (.two p a b)).typ (flat (resE vs a))) (resE vs a) else resE vs a)
      (if (kt vs b).typ = 0 then giveT (askT p [(kt vs a).typ, (kt vs b).typ] (kt vs (.two p a b)).typ (flat (resE vs b))) (resE vs b) else resE vs b))))
    rw [kt_ok hu, kt_ok hu', kt_ok h, List.append_nil, List.append_assoc]
    unfold resV
    have e1 : (if (Vl.mk u (flat (resE vs a))).k.typ = 0 then giveP (askT p [u.typ, u'.typ] k.typ (flat (resE vs a))) (flat (resE vs a)) else flat (resE vs a)) = flat (if u.typ = 0 then giveT (askT p [u.typ, u'.typ] k.typ (flat (resE vs a))) (resE vs a) else resE vs a) := by
      by_cases h0 : u.typ = 0
      · obtain ⟨-, -, hres⟩ := bare hv hw.2.2.1 hu h0
        rw [if_pos h0, if_pos h0, hres, give_flat _ hw.2.2.1]
      · rw [if_neg h0, if_neg h0]
    have e2 : (if (Vl.mk u' (flat (resE vs b))).k.typ = 0 then giveP (askT p [u.typ, u'.typ] k.typ (flat (resE vs b))) (flat (resE vs b)) else flat (resE vs b)) = flat (if u'.typ = 0 then giveT (askT p [u.typ, u'.typ] k.typ (flat (resE vs b))) (resE vs b) else resE vs b) := by
      by_cases h0 : u'.typ = 0
      · obtain ⟨-, -, hres⟩ := bare hv hw.2.2.2 hu' h0
        rw [if_pos h0, if_pos h0, hres, give_flat _ hw.2.2.2]
      · rw [if_neg h0, if_neg h0]
    rw [e1, e2]; rfl
/-- resolved for a type that it fits -/
def endE (vs : List Vr) (e : Ex) (t : Int) : Ex := kid (kt vs e) t (resE vs e)
theorem res_tree {vs : List Vr} (hv : vOk vs) {e : Ex} {k : Kd} {t : Int} (hw : well e) (h : evT (partK vs) e = .ok k) (hf : kFits k t = 0) :
    Rt vs e (endE vs e t) t ∧ resP vs (flat e) t = flat (endE vs e t) := by
  have r := kid_ok hv hw h (typed_tree hv hw h) (fits_kid hv hw h hf (A := t) fun _ => rfl)
  unfold endE
  rw [kt_ok h]
  refine ⟨r, ?_⟩
  unfold resP
  rw [run_tree _ hw, evR_tree hv hw h]
  show endR t ⟨k, flat (resE vs e)⟩ = _
  unfold endR kid
  by_cases h0 : k.typ = 0
  · obtain ⟨-, -, hres⟩ := bare hv hw h h0
    rw [if_pos h0, if_pos h0, hres, give_flat _ hw]
  · rw [if_neg h0, if_neg h0]
end Go.Proofs.YtldjiieckddhkaaGreatDoor
