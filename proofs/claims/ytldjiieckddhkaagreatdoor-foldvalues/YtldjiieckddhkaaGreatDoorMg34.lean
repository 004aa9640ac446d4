/- DvP | QwW -/
import Derived.Test.YtldjiieckddhkaaGreatDoorMg33
import Derived.Test.YtldjiieckddhkaaGreatDoorMg4
import Derived.Test.YtldjiieckddhkaaGreatDoorMg1
namespace Go.Proofs.YtldjiieckddhkaaGreatDoor
structure Dv where
  t : Int
  nums : List Int
def dT (t : Int) : Dv := ⟨t, []⟩
def fitN (l : List Int) (t : Int) : Bool := l.all (fit6 t)
def wholeB (t : Int) : Bool := decide (t = 2) || decide (t = 3)
def noneD (op : Int) (a b : Dv) : Except Int Dv :=
  if Four.has2 op 3 = false then .error 40 else if op < 9 then .ok ⟨0, a.nums ++ b.nums⟩ else if fitN (a.nums ++ b.nums) 3 = false then .error 1 else .ok (dT 1)
def twoD (op : Int) (a b : Dv) : Except Int Dv :=
  if a.t = 0 ∧ b.t = 0 then noneD op a b
  else if (a.t ≠ 0 ∧ b.t ≠ 0 ∧ a.t ≠ b.t) ∨ ((a.t = 0 ∨ b.t = 0) ∧ wholeB (max a.t b.t) = false) ∨ Four.has2 op (max a.t b.t) = false then .error 40
  else if (a.t = 0 ∧ fitN a.nums (max a.t b.t) = false) ∨ (b.t = 0 ∧ fitN b.nums (max a.t b.t) = false) then .error 1
  else .ok (dT (Four.resN op (max a.t b.t)).1)
def oneD (op : Int) (a : Dv) : Except Int Dv := if Four.has1 op (if a.t = 0 then 3 else a.t) = false then .error 40 else .ok a
def cntD (a : Dv) (time : Bool) : Int := if a.t = 0 then (if fitN a.nums 3 = true then 0 else 1) else if wholeB a.t || (time && decide (a.t = 4)) then 0 else 40
def partD (p : Pt) (on : List Dv) : Except Int Dv :=
  if p.kind = 1 then .ok (if p.t ≠ 0 then dT p.t else ⟨0, [p.n]⟩)
  else if p.kind = 6 then (if cntD (on.headD (dT 0)) true ≠ 0 then .error (cntD (on.headD (dT 0)) true) else .ok (dT p.t))
  else if on.length = 1 then oneD p.n (on.headD (dT 0)) else twoD p.n (on.headD (dT 0)) (on.getLastD (dT 0))
def endD (d : Dv) : Except Int Dv := if d.t = 0 ∧ fitN d.nums 3 = false then .error 1 else .ok d
def reckD (x : List Pt) : Except Int Dv := match mRun partD x [] with
  | .error e => Except.error e
  | .ok st => endD (st.headD (dT 0))
def fitsD (x : List Pt) (t : Int) : Int := match reckD x with
  | .error e => e
  | .ok v => if v.t = t ∧ t ≠ 0 then 0 else if v.t ≠ 0 ∨ wholeB t = false then 40 else if fitN v.nums t = false then 1 else 0
structure KD (d : Dv) (k : Kd) : Prop where
  typ : d.t = k.typ
  typed : k.typ ≠ 0 → k = kT k.typ ∧ 1 ≤ k.typ ∧ k.typ ≤ 4 ∧ d.nums = []
  rng : k.typ = 0 → k.lo ≤ k.hi
  none : k.typ = 0 → ∀ t, t = 2 ∨ t = 3 → fitN d.nums t = (fit6 t k.lo && fit6 t k.hi)
theorem KD.ofT {t : Int} (h : 1 ≤ t ∧ t ≤ 4) : KD (dT t) (kT t) := ⟨rfl, fun _ => ⟨rfl, h.1, h.2, rfl⟩, fun h0 => absurd h0 (show t ≠ 0 by omega), fun h0 => absurd h0 (show t ≠ 0 by omega)⟩
theorem has2_dec {op t : Int} (ho : 1 ≤ op ∧ op ≤ 14) (ht : 1 ≤ t ∧ t ≤ 4) : Four.has2 op t = decide ((Four.resN op t).2 = 0) := by
  have h1 : op = 1 ∨ op = 2 ∨ op = 3 ∨ op = 4 ∨ op = 5 ∨ op = 6 ∨ op = 7 ∨ op = 8 ∨ op = 9 ∨ op = 10 ∨ op = 11 ∨ op = 12 ∨ op = 13 ∨ op = 14 := by omega
  have h2 : t = 1 ∨ t = 2 ∨ t = 3 ∨ t = 4 := by omega
  rcases h1 with rfl | rfl | rfl | rfl | rfl | rfl | rfl | rfl | rfl | rfl | rfl | rfl | rfl | rfl <;> rcases h2 with rfl | rfl | rfl | rfl <;> decide
theorem has1_dec {op t : Int} (ho : op = 15 ∨ op = 16) (ht : 1 ≤ t ∧ t ≤ 4) : Four.has1 op t = decide ((Four.resN op t).2 = 0) := by
  have h2 : t = 1 ∨ t = 2 ∨ t = 3 ∨ t = 4 := by omega
  rcases ho with rfl | rfl <;> rcases h2 with rfl | rfl | rfl | rfl <;> decide
theorem res_two {op t : Int} (ho : 1 ≤ op ∧ op ≤ 16) (ht : 1 ≤ t ∧ t ≤ 4) : (Four.resN op t).2 = 0 ∨ (Four.resN op t).2 = 40 := by
  rw [res_dec ho ht]
  split
  · exact .inr rfl
  · split <;> exact .inl rfl
theorem kt_ne {d : Dv} {k : Kd} (h : KD d k) (h0 : k.typ ≠ 0) : ∀ t, k = kT t ↔ k.typ = t := fun t => by
  constructor
  · intro e; rw [e]; rfl
  · intro e; rw [← e]; exact (h.typed h0).1
theorem kFits_typed {d : Dv} {k : Kd} (h : KD d k) (h0 : k.typ ≠ 0) (t : Int) : kFits k t = if k.typ = t then 0 else 40 := by
  unfold kFits
  by_cases e : k.typ = t
  · rw [if_pos ⟨h0, (kt_ne h h0 t).2 e⟩, if_pos e]
  · rw [if_neg (fun h' => e ((kt_ne h h0 t).1 h'.2)), if_pos (.inl h0), if_neg e]
theorem kFits_none {d : Dv} {k : Kd} (h : KD d k) (h0 : k.typ = 0) (t : Int) : kFits k t = if wholeB t = false then 40 else if fitN d.nums t = false then 1 else 0 := by
  unfold kFits wholeB
  rw [if_neg (fun h' => h'.1 h0)]
  by_cases e : t = 2 ∨ t = 3
  · have hw : (decide (t = 2) || decide (t = 3)) = true := by rcases e with rfl | rfl <;> decide
    rw [hw, if_neg (show ¬ (true = false) by decide), if_neg (show ¬ (k.typ ≠ 0 ∨ t ≠ 2 ∧ t ≠ 3) by omega), h.none h0 t e]
    cases fit6 t k.lo <;> cases fit6 t k.hi <;> simp
  · have hw : (decide (t = 2) || decide (t = 3)) = false := by rw [decide_eq_false (by omega), decide_eq_false (by omega)]; rfl
    rw [hw, if_pos (show k.typ ≠ 0 ∨ t ≠ 2 ∧ t ≠ 3 by omega), if_pos rfl]
theorem fitN_app (a b : List Int) (t : Int) : fitN (a ++ b) t = (fitN a t && fitN b t) := List.all_append
theorem KD.with {a b : Dv} {u v : Kd} (ha : KD a u) (hb : KD b v) (h0 : u.typ = 0) (h0' : v.typ = 0) : KD ⟨0, a.nums ++ b.nums⟩ (kWith u v) := by
  have r1 := ha.rng h0
  have r2 := hb.rng h0'
  refine ⟨rfl, fun h => absurd rfl h, fun _ => show min u.lo v.lo ≤ max u.hi v.hi by omega, fun _ t ht => ?_⟩
  show fitN (a.nums ++ b.nums) t = (fit6 t (min u.lo v.lo) && fit6 t (max u.hi v.hi))
  rw [fitN_app, ha.none h0 t ht, hb.none h0' t ht, Bool.eq_iff_iff]
  simp only [Bool.and_eq_true]
  constructor
  · rintro ⟨⟨h1, h2⟩, h3, h4⟩
    constructor
    · rcases (show min u.lo v.lo = u.lo ∨ min u.lo v.lo = v.lo by omega) with e | e <;> rw [e] <;> assumption
    · rcases (show max u.hi v.hi = u.hi ∨ max u.hi v.hi = v.hi by omega) with e | e <;> rw [e] <;> assumption
  · rintro ⟨h1, h2⟩
    exact ⟨⟨fit_mid ht h1 h2 (by omega) (by omega), fit_mid ht h1 h2 (by omega) (by omega)⟩, fit_mid ht h1 h2 (by omega) (by omega), fit_mid ht h1 h2 (by omega) (by omega)⟩
def Alike : Except Int Dv → Except Int Kd → Prop
  | .error e, .error e' => e = e'
  | .ok d, .ok k => KD d k
  | _, _ => False
theorem two_alike {op : Int} (ho : 1 ≤ op ∧ op ≤ 14) {a b : Dv} {u v : Kd} (ha : KD a u) (hb : KD b v) : Alike (twoD op a b) (opK op u v) := by
  unfold twoD opK
  rw [ha.typ, hb.typ]
  by_cases h0 : u.typ = 0
  · by_cases h0' : v.typ = 0
    · have e3 : tyOr u (tyOr v 3) = 3 := by unfold tyOr; rw [if_pos h0, if_pos h0']
      rw [if_pos ⟨h0, h0'⟩, e3]
      unfold noneD
      rw [has2_dec ho (by omega)]
      rcases res_three (op := op) (by omega) with ⟨hr, -, hn⟩ | ⟨hr, -, hn⟩
      · rw [hr]
        rw [if_neg (show ¬ decide ((((3, 0) : Int × Int)).2 = 0) = false by decide), if_pos (show op < 9 by omega), if_neg (show ¬ (((3, 0) : Int × Int)).2 ≠ 0 by decide), if_pos (show u.typ = 0 ∧ v.typ = 0 ∧ (((3, 0) : Int × Int)).1 = 3 from ⟨h0, h0', rfl⟩)]
        exact KD.with ha hb h0 h0'
      · rw [hr]
        rw [if_neg (show ¬ decide ((((1, 0) : Int × Int)).2 = 0) = false by decide), if_neg (show ¬ op < 9 by omega), if_neg (show ¬ (((1, 0) : Int × Int)).2 ≠ 0 by decide), if_neg (show ¬ (u.typ = 0 ∧ v.typ = 0 ∧ (((1, 0) : Int × Int)).1 = 3) from fun h => absurd h.2.2 (by decide)), fitN_app, kFits_none ha h0, kFits_none hb h0']
        rw [if_neg (show ¬ wholeB 3 = false by decide), if_neg (show ¬ wholeB 3 = false by decide)]
        cases h1 : fitN a.nums 3 <;> cases h2 : fitN b.nums 3
        · exact rfl
        · exact rfl
        · exact rfl
        · exact KD.ofT (by decide)
    · obtain ⟨-, hv1, hv4, -⟩ := hb.typed h0'
      have e3 : tyOr u (tyOr v 3) = v.typ := by unfold tyOr; rw [if_pos h0, if_neg h0']
      have em : max u.typ v.typ = v.typ := by omega
      have hn0 : ¬ (u.typ = 0 ∧ v.typ = 0) := fun h => h0' h.2
      rw [e3, em, has2_dec ho ⟨hv1, hv4⟩, kFits_none ha h0, kFits_typed hb h0', if_pos (rfl : v.typ = v.typ)]
      rcases res_two (op := op) (t := v.typ) (by omega) ⟨hv1, hv4⟩ with hr | hr
      · have hT := KD.ofT (show 1 ≤ (Four.resN op v.typ).1 ∧ (Four.resN op v.typ).1 ≤ 4 by rw [res_range (by omega) ⟨hv1, hv4⟩ hr]; split <;> omega)
        generalize (Four.resN op v.typ).1 = R at *
        cases hw : wholeB v.typ
        · simp [h0, h0', hr, Alike]
        · cases hf : fitN a.nums v.typ
          · simp [h0, h0', hr, Alike]
          · simp [h0, h0', hr, Alike]; exact hT
      · simp [h0, h0', hr, Alike]
  · obtain ⟨-, hu1, hu4, -⟩ := ha.typed h0
    have e3 : tyOr u (tyOr v 3) = u.typ := by unfold tyOr; rw [if_neg h0]
    rw [e3, kFits_typed ha h0, if_pos (rfl : u.typ = u.typ)]
    by_cases h0' : v.typ = 0
    · have em : max u.typ v.typ = u.typ := by omega
      rw [em, has2_dec ho ⟨hu1, hu4⟩, kFits_none hb h0']
      rcases res_two (op := op) (t := u.typ) (by omega) ⟨hu1, hu4⟩ with hr | hr
      · have hT := KD.ofT (show 1 ≤ (Four.resN op u.typ).1 ∧ (Four.resN op u.typ).1 ≤ 4 by rw [res_range (by omega) ⟨hu1, hu4⟩ hr]; split <;> omega)
        generalize (Four.resN op u.typ).1 = R at *
        cases hw : wholeB u.typ
        · simp [h0, h0', hr, Alike]
        · cases hf : fitN b.nums u.typ
          · simp [h0, h0', hr, Alike]
          · simp [h0, h0', hr, Alike]; exact hT
      · simp [h0, h0', hr, Alike]
    · obtain ⟨-, hv1, hv4, -⟩ := hb.typed h0'
      rw [kFits_typed hb h0']
      by_cases e : u.typ = v.typ
      · have em : max u.typ v.typ = u.typ := by omega
        rw [em, has2_dec ho ⟨hu1, hu4⟩, if_pos e.symm]
        rcases res_two (op := op) (t := u.typ) (by omega) ⟨hu1, hu4⟩ with hr | hr
        · have hT := KD.ofT (show 1 ≤ (Four.resN op u.typ).1 ∧ (Four.resN op u.typ).1 ≤ 4 by rw [res_range (by omega) ⟨hu1, hu4⟩ hr]; split <;> omega)
          generalize (Four.resN op u.typ).1 = R at *
          have e' : ¬ u.typ ≠ v.typ := fun h => h e
          have h1 : ¬ (u.typ = 0 ∧ v.typ = 0) := fun h => h0 h.1
          rw [if_neg h1, if_neg (by intro h; rcases h with h | h | h; exact h.2.2 e; exact (h.1.elim h0 h0'); rw [hr] at h; cases h), if_neg (by intro h; rcases h with h | h; exact h0 h.1; exact h0' h.1)]
          simp [h0, hr, Alike]; exact hT
        · rw [if_neg (fun h => h0 h.1), if_pos (.inr (.inr (by rw [hr]; rfl))), if_pos (by rw [hr]; decide), hr]; exact rfl
      · have e' : ¬ v.typ = u.typ := fun h => e h.symm
        have h1 : ¬ (u.typ = 0 ∧ v.typ = 0) := fun h => h0 h.1
        rw [if_neg h1, if_pos (.inl ⟨h0, h0', e⟩)]
        rcases res_two (op := op) (t := u.typ) (by omega) ⟨hu1, hu4⟩ with hr | hr
        · simp [h0, hr, e', Alike]
        · simp [hr, Alike]
theorem one_alike {op : Int} (ho : op = 15 ∨ op = 16) {a : Dv} {u : Kd} (ha : KD a u) : Alike (oneD op a) (opK op u u) := by
  unfold oneD opK
  rw [ha.typ]
  by_cases h0 : u.typ = 0
  · have e3 : tyOr u (tyOr u 3) = 3 := by unfold tyOr; rw [if_pos h0, if_pos h0]
    rw [if_pos h0, e3, has1_dec ho (by omega)]
    rcases res_three (op := op) (by omega) with ⟨hr, -, hn⟩ | ⟨hr, -, hn⟩
    · rw [hr, if_neg (show ¬ decide ((((3, 0) : Int × Int)).2 = 0) = false by decide), if_neg (show ¬ (((3, 0) : Int × Int)).2 ≠ 0 by decide), if_pos (show u.typ = 0 ∧ u.typ = 0 ∧ (((3, 0) : Int × Int)).1 = 3 from ⟨h0, h0, rfl⟩)]
      have hw := KD.with ha ha h0 h0
      refine ⟨by rw [ha.typ, h0]; rfl, fun h => absurd rfl h, hw.rng, fun h t ht => ?_⟩
      rw [← hw.none h t ht, fitN_app, Bool.and_self]
    · omega
  · obtain ⟨hk, hu1, hu4, hn⟩ := ha.typed h0
    have e3 : tyOr u (tyOr u 3) = u.typ := by unfold tyOr; rw [if_neg h0]
    rw [if_neg h0, e3, has1_dec ho ⟨hu1, hu4⟩]
    rcases res_two (op := op) (t := u.typ) (by omega) ⟨hu1, hu4⟩ with hr | hr
    · rw [kFits_typed ha h0, if_pos (rfl : u.typ = u.typ)]
      have hR : (Four.resN op u.typ).1 = u.typ := by rw [res_range (by omega) ⟨hu1, hu4⟩ hr, if_neg (by omega)]
      rw [hR]
      simp [h0, hr, Alike]
      rw [← hk]; exact ha
    · simp [hr, Alike]
theorem cnt_alike {a : Dv} {u : Kd} (ha : KD a u) : cntD a true = kAmong u [2, 4] := by
  unfold cntD kAmong
  rw [ha.typ]
  by_cases h0 : u.typ = 0
  · have hn : ¬ (([2, 4] : List Int).any fun t => decide (u = kT t)) = true := by
      rw [List.any_eq_true]
      rintro ⟨t, ht, e⟩
      have e := of_decide_eq_true e
      rw [e] at h0
      rcases List.mem_cons.1 ht with rfl | ht
      · exact absurd h0 (by decide)
      · rw [List.mem_singleton] at ht; subst ht; exact absurd h0 (by decide)
    rw [if_pos h0, if_neg hn, kFits_none ha h0, if_neg (show ¬ wholeB 3 = false by decide)]
    cases fitN a.nums 3 <;> rfl
  · obtain ⟨-, hu1, hu4, -⟩ := ha.typed h0
    rw [if_neg h0, kFits_typed ha h0]
    have h : u.typ = 1 ∨ u.typ = 2 ∨ u.typ = 3 ∨ u.typ = 4 := by omega
    have hk : ∀ t, decide (u = kT t) = decide (u.typ = t) := fun t => by rw [Bool.eq_iff_iff]; simp [kt_ne ha h0 t]
    simp only [List.any_cons, List.any_nil, hk]
    rcases h with e | e | e | e <;> rw [e] <;> decide
inductive All2 : List Dv → List Kd → Prop
  | nil : All2 [] []
  | cons {d : Dv} {k : Kd} {ds : List Dv} {ks : List Kd} (h : KD d k) (r : All2 ds ks) : All2 (d :: ds) (k :: ks)
theorem part_alike {p : Pt} (hm : mayP p = true) (hs : p.s = []) (ds : List Dv) (ks : List Kd) (hl : takes p = ds.length) (hr : All2 ds ks) : Alike (partD p ds) (partK [] p ks) := by
  have hk : p.kind = 1 ∨ p.kind = 5 ∨ p.kind = 6 := by
    have hn : nameB [] = false := by decide
    unfold mayP at hm
    rw [hs, hn] at hm
    by_cases h1 : p.kind = 1
    · exact .inl h1
    rw [if_neg h1] at hm
    by_cases h2 : p.kind = 2 ∨ p.kind = 3
    · rw [if_pos h2] at hm; simp at hm
    rw [if_neg h2] at hm
    by_cases h4 : p.kind = 4
    · rw [if_pos h4] at hm; simp at hm
    rw [if_neg h4] at hm
    by_cases h5 : p.kind = 5
    · exact .inr (.inl h5)
    rw [if_neg h5] at hm
    by_cases h6 : p.kind = 6
    · exact .inr (.inr h6)
    rw [if_neg h6] at hm; cases hm
  rcases hk with h | h | h
  · rw [partK_num h]
    unfold partD
    rw [if_pos h]
    show KD _ _
    by_cases h0 : p.t = 0
    · rw [if_pos h0, if_neg (fun h => h h0)]
      exact ⟨rfl, fun h => absurd rfl h, fun _ => Int.le_refl _, fun _ t _ => by show ([p.n] : List Int).all (fit6 t) = _; simp⟩
    · rw [if_neg h0, if_pos h0]
      refine KD.ofT ?_
      unfold mayP at hm
      rw [if_pos h, if_neg h0] at hm
      have hf : fit6 p.t p.n = true := by simp only [Bool.and_eq_true] at hm; exact hm.2.2
      unfold fit6 at hf
      split at hf
      · omega
      split at hf
      · omega
      split at hf
      · omega
      · cases hf
  · rw [partK_five h]
    unfold partD
    rw [if_neg (by omega), if_neg (by omega)]
    obtain ⟨-, hn1, hn2⟩ := may5 h hm
    by_cases ho : p.n = 15 ∨ p.n = 16
    · have ht : takes p = 1 := by unfold takes; rw [if_neg (by omega), if_pos ⟨h, ho⟩]
      rw [ht] at hl
      rw [if_pos hl.symm]
      match ds, ks, hr, hl with
      | [d], [k], .cons hd .nil, _ => exact one_alike ho hd
    · have ht : takes p = 2 := by unfold takes; rw [if_neg (by omega), if_neg (fun h => ho h.2), if_pos h]
      rw [ht] at hl
      rw [if_neg (by omega)]
      match ds, ks, hr, hl with
      | [d, d'], [k, k'], .cons hd (.cons hd' .nil), _ => exact two_alike (by omega) hd hd'
  · have ht : takes p = 1 := by unfold takes; rw [if_pos (.inr h)]
    rw [ht] at hl
    have e1 : partD p ds = if cntD (ds.headD (dT 0)) true ≠ 0 then .error (cntD (ds.headD (dT 0)) true) else .ok (dT p.t) := by
      unfold partD
      rw [if_neg (show ¬ p.kind = 1 by omega), if_pos h]
    have e2 : partK [] p ks = if kAmong (ks.headD (kT 0)) [2, 4] ≠ 0 then .error (kAmong (ks.headD (kT 0)) [2, 4]) else .ok (kT p.t) := by
      unfold partK
      rw [if_neg (show ¬ p.kind = 1 by omega), if_neg (show ¬ p.kind = 2 by omega), if_neg (show ¬ p.kind = 3 by omega), if_neg (show ¬ p.kind = 4 by omega), if_pos h]
    rw [e1, e2]
    match ds, ks, hr, hl with
    | [d], [k], .cons hd .nil, _ =>
      show Alike (if cntD d true ≠ 0 then .error (cntD d true) else .ok (dT p.t)) (if kAmong k [2, 4] ≠ 0 then .error (kAmong k [2, 4]) else .ok (kT p.t))
      rw [cnt_alike hd]
      split
      · exact rfl
      · refine KD.ofT ?_
        unfold mayP at hm
        rw [if_neg (by omega), if_neg (by omega), if_neg (by omega), if_neg (by omega), if_pos h] at hm
        simp only [Bool.and_eq_true, decide_eq_true_eq] at hm
        omega
theorem tree_alike : ∀ {e : Ex}, well e → (∀ p ∈ flat e, p.s = []) → Alike (evT partD e) (evT (partK []) e)
  | .leaf p, hw, hs => part_alike hw.2 (hs p (by simp [flat])) [] [] hw.1 .nil
  | .one p a, hw, hs => by
    have ih := tree_alike hw.2.2 (fun q hq => hs q (by simp [flat, hq]))
    rw [evT_one, evT_one]
    match evT partD a, evT (partK []) a, ih with
    | .error e, .error e', h => exact h
    | .ok d, .ok k, h => exact part_alike hw.2.1 (hs p (by simp [flat])) [d] [k] hw.1 (.cons h .nil)
  | .two p a b, hw, hs => by
    have ih := tree_alike hw.2.2.1 (fun q hq => hs q (by simp [flat, hq]))
    have ih' := tree_alike hw.2.2.2 (fun q hq => hs q (by simp [flat, hq]))
    rw [evT_two, evT_two]
    match evT partD a, evT (partK []) a, ih with
    | .error e, .error e', h => exact h
    | .ok d, .ok k, h =>
      match evT partD b, evT (partK []) b, ih' with
      | .error e, .error e', h' => exact h'
      | .ok d', .ok k', h' => exact part_alike hw.2.1 (hs p (by simp [flat])) [d, d'] [k, k'] hw.1 (.cons h (.cons h' .nil))
theorem reck_alike {e : Ex} (hw : well e) (hs : ∀ p ∈ flat e, p.s = []) : Alike (reckD (flat e)) (kindP [] (flat e)) := by
  have h := tree_alike hw hs
  unfold reckD kindP
  rw [run_tree _ hw, run_tree _ hw]
  match evT partD e, evT (partK []) e, h with
  | .error e, .error e', h => exact h
  | .ok d, .ok k, h =>
    show Alike (endD d) (if k.typ = 0 ∧ kFits k 3 ≠ 0 then .error 1 else .ok k)
    unfold endD
    rw [h.typ]
    by_cases h0 : k.typ = 0
    · rw [kFits_none h h0, if_neg (show ¬ wholeB 3 = false by decide)]
      cases hf : fitN d.nums 3
      · rw [if_pos ⟨h0, rfl⟩, if_pos ⟨h0, by decide⟩]; exact rfl
      · rw [if_neg (fun h => absurd h.2 (by decide)), if_neg (fun h => absurd h.2 (by decide))]; exact h
    · rw [if_neg (fun h => h0 h.1), if_neg (fun h => h0 h.1)]; exact h
theorem fits_alike {e : Ex} (hw : well e) (hs : ∀ p ∈ flat e, p.s = []) (hd : dep e ≤ 24) (hl : (flat e).length ≤ 500) (t : Int) : fitsD (flat e) t = fitsP [] (flat e) t := by
  have h := reck_alike hw hs
  unfold fitsD fitsP askP
  rw [if_neg (show ¬ mayV [] ≠ 0 by decide), if_neg (fun h => h (check_flat hw hd hl))]
  match reckD (flat e), kindP [] (flat e), h with
  | .error e, .error e', h => exact h
  | .ok d, .ok k, h =>
    show (if d.t = t ∧ t ≠ 0 then 0 else if d.t ≠ 0 ∨ wholeB t = false then 40 else if fitN d.nums t = false then 1 else 0) = kFits k t
    rw [h.typ]
    by_cases h0 : k.typ = 0
    · rw [kFits_none h h0, if_neg (by omega)]
      cases hw : wholeB t
      · rw [if_pos (.inr rfl), if_pos rfl]
      · rw [if_neg (by intro h; rcases h with h | h; exact h h0; exact absurd h (by decide)), if_neg (show ¬ (true = false) by decide)]
    · rw [kFits_typed h h0]
      by_cases e : k.typ = t
      · rw [if_pos ⟨e, by omega⟩, if_pos e]
      · rw [if_neg (fun h => e h.1), if_pos (.inl h0), if_neg e]
def typD (x : List Pt) : Int := match reckD x with
  | .error _ => 0
  | .ok v => v.t
theorem typ_alike {e : Ex} (hw : well e) (hs : ∀ p ∈ flat e, p.s = []) {k : Kd} (h : evT (partK []) e = .ok k) : typD (flat e) = k.typ := by
  have ha := tree_alike hw hs
  rw [h] at ha
  unfold typD reckD
  rw [run_tree _ hw]
  match evT partD e, ha with
  | .ok d, ha =>
    show (match endD d with | .error _ => 0 | .ok v => v.t) = _
    unfold endD
    by_cases h1 : d.t = 0 ∧ fitN d.nums 3 = false
    · rw [if_pos h1, ← ha.typ]; exact h1.1.symm
    · rw [if_neg h1]; exact ha.typ
end Go.Proofs.YtldjiieckddhkaaGreatDoor
namespace Go.Proofs.YtldjiieckddhkaaGreatDoor
open Go.RowKit
set_option maxRecDepth 100000 in
set_option maxHeartbeats 1600000 in
theorem qTakes_any (k n t : Int) (s f : ByteArray) (w : World) : Calls Tryz.prog 50 #[.agg #[.int .i64 k, .int .i64 n, .int .i64 t, .string s, .string f]] w fun e w' => e = .returned (.int .i64 ((takes ⟨k, [], [], n, t⟩ : Nat) : Int)) ∧ Below w.heap.size w w' := by
  have B0 := hide ((Below.refl w.heap.size w).alloc (Nat.le_refl _) (.cells #[.int .i64 k, .int .i64 n, .int .i64 t, .string s, .string f] 38))
  have HT : Hid (takes ⟨k, [], [], n, t⟩ = if k = 3 ∨ k = 6 then 1 else if k = 5 ∧ (n = 15 ∨ n = 16) then 1 else if k = 5 then 2 else 0) := rfl
  by_cases h3 : k = 3
  · subst h3
    rw [if_pos (.inl rfl)] at HT
    go_enter Tryz.func50, Tryz.ntmps50
    go_wp2
    go_ret
    exact ⟨by rw [HT.out]; rfl, B0.out⟩
  by_cases h6 : k = 6
  · subst h6
    rw [if_pos (.inr rfl)] at HT
    go_enter Tryz.func50, Tryz.ntmps50
    go_wp2
    go_ret
    exact ⟨by rw [HT.out]; rfl, B0.out⟩
  rw [if_neg (by omega)] at HT
  by_cases h5 : k = 5
  · subst h5
    by_cases h15 : n = 15
    · subst h15
      rw [if_pos (by omega)] at HT
      go_enter Tryz.func50, Tryz.ntmps50
      go_wp2
      go_ret
      exact ⟨by rw [HT.out]; rfl, B0.out⟩
    by_cases h16 : n = 16
    · subst h16
      rw [if_pos (by omega)] at HT
      go_enter Tryz.func50, Tryz.ntmps50
      go_wp2
      go_ret
      exact ⟨by rw [HT.out]; rfl, B0.out⟩
    rw [if_neg (by omega), if_pos rfl] at HT
    have q1 : (n == 15) = false := by rw [beq_eq_false_iff_ne]; exact h15
    have q2 : (n == 16) = false := by rw [beq_eq_false_iff_ne]; exact h16
    go_enter Tryz.func50, Tryz.ntmps50
    go_wp2
    go_ret
    exact ⟨by rw [HT.out]; rfl, B0.out⟩
  · rw [if_neg (by omega), if_neg h5] at HT
    have q1 : (k == 3) = false := by rw [beq_eq_false_iff_ne]; exact h3
    have q2 : (k == 6) = false := by rw [beq_eq_false_iff_ne]; exact h6
    have q3 : (k == 5) = false := by rw [beq_eq_false_iff_ne]; exact h5
    go_enter Tryz.func50, Tryz.ntmps50
    go_wp2
    go_ret
    exact ⟨by rw [HT.out]; rfl, B0.out⟩
theorem qTakes_v (x : Pv) (w : World) : Calls Tryz.prog 50 #[.agg #[.int .i64 x.k, .int .i64 x.n, .int .i64 x.t, .string x.s, .string x.f]] w fun e w' => e = .returned (.int .i64 ((takes (ptV x) : Nat) : Int)) ∧ Below w.heap.size w w' := qTakes_any x.k x.n x.t x.s x.f w
end Go.Proofs.YtldjiieckddhkaaGreatDoor
