/- Parts as trees; what they are shown as, and that this is read as just they. -/
import Derived.Test.YtldjiieckddhkaaGreatDoorRead
namespace Go.Proofs.YtldjiieckddhkaaGreatDoor
inductive Ex
  | leaf (p : Pt)
  | one (p : Pt) (e : Ex)
  | two (p : Pt) (a b : Ex)
def flat : Ex → List Pt
  | .leaf p => [p]
  | .one p e => flat e ++ [p]
  | .two p a b => flat a ++ (flat b ++ [p])
def dep : Ex → Nat
  | .leaf _ => 1
  | .one _ e => dep e + 1
  | .two _ a b => max (dep b) (dep a) + 1
def fit6 (t n : Int) : Bool := if t = 1 then decide (n = 0) || decide (n = 1) else if t = 2 then decide (-32768 ≤ n) && decide (n ≤ 32767) else if t = 3 ∨ t = 4 then decide (-2147483648 ≤ n) && decide (n ≤ 2147483647) else false
/-- may a part be? -/
def mayP (p : Pt) : Bool :=
  if p.kind = 1 then decide (p.s = []) && (decide (p.f = []) && (if p.t = 0 then decide (-2147483648 ≤ p.n) && decide (p.n ≤ 2147483648) else fit6 p.t p.n))
  else if p.kind = 2 ∨ p.kind = 3 then decide (p.f = []) && (decide (p.n = 0) && (decide (p.t = 0) && nameB p.s))
  else if p.kind = 4 then decide (p.n = 0) && (decide (p.t = 0) && (nameB p.s && wordB p.f))
  else if p.kind = 5 then decide (p.s = []) && (decide (p.f = []) && (decide (p.t = 0) && (decide (1 ≤ p.n) && decide (p.n ≤ 16))))
  else if p.kind = 6 then decide (p.s = []) && (decide (p.f = []) && (decide (p.n = 0) && (decide (2 ≤ p.t) && decide (p.t ≤ 4))))
  else false
/-- the parts of a tree are such as work on as many values as they have -/
def well : Ex → Prop
  | .leaf p => takes p = 0 ∧ mayP p = true
  | .one p e => takes p = 1 ∧ mayP p = true ∧ well e
  | .two p a b => takes p = 2 ∧ mayP p = true ∧ well a ∧ well b
def opTok (n : Int) : Tk :=
  if n = 1 then signT [43] else
  if n = 2 then signT [45] else
  if n = 3 then signT [42] else
  if n = 4 then signT [47] else
  if n = 5 then wordT [77, 79, 68] else
  if n = 6 then wordT [65, 78, 68] else
  if n = 7 then wordT [79, 82] else
  if n = 8 then wordT [88, 79, 82] else
  if n = 9 then signT [61] else
  if n = 10 then signT [60, 62] else
  if n = 11 then signT [60] else
  if n = 12 then signT [60, 61] else
  if n = 13 then signT [62] else
  if n = 14 then signT [62, 61] else
  if n = 15 then signT [45] else
  wordT [78, 79, 84]
def toW (t : Int) : Bs := if t = 2 then [84, 79, 95, 73, 78, 84] else if t = 3 then [84, 79, 95, 68, 73, 78, 84] else [84, 79, 95, 84, 73, 77, 69]
def brk (inner : Bool) (l : List Tk) : List Tk := if inner then signT [40] :: (l ++ [signT [41]]) else l
def showE : Ex → Bool → List Tk
  | .leaf p, _ => if p.kind = 1 then (if p.t = 1 then [wordT (if p.n = 1 then truB else falB)] else [numT p.n p.t]) else if p.kind = 2 then [wordT p.s] else [wordT p.s, signT [46], wordT p.f]
  | .one p e, inner =>
    if p.kind = 3 then wordT p.s :: signT [91] :: (showE e false ++ [signT [93]])
    else if p.kind = 6 then wordT (toW p.t) :: signT [40] :: (showE e false ++ [signT [41]])
    else brk inner (opTok p.n :: showE e true)
  | .two p a b, inner => brk inner (showE a true ++ opTok p.n :: showE b true)
theorem may5 {p : Pt} (hk : p.kind = 5) (h : mayP p = true) : p = opP p.n ∧ 1 ≤ p.n ∧ p.n ≤ 16 := by
  obtain ⟨k, s, f, n, t⟩ := p
  simp only [] at hk
  subst hk
  unfold mayP at h
  simp only [] at h
  rw [if_neg (by decide), if_neg (by decide), if_neg (by decide), if_pos (by decide)] at h
  simp only [Bool.and_eq_true, decide_eq_true_eq] at h
  obtain ⟨rfl, rfl, rfl, h1, h2⟩ := h
  exact ⟨rfl, h1, h2⟩
theorem may6 {p : Pt} (hk : p.kind = 6) (h : mayP p = true) : p = toP p.t ∧ (p.t = 2 ∨ p.t = 3 ∨ p.t = 4) := by
  obtain ⟨k, s, f, n, t⟩ := p
  simp only [] at hk
  subst hk
  unfold mayP at h
  simp only [] at h
  rw [if_neg (by decide), if_neg (by decide), if_neg (by decide), if_neg (by decide), if_pos (by decide)] at h
  simp only [Bool.and_eq_true, decide_eq_true_eq] at h
  obtain ⟨rfl, rfl, rfl, h1, h2⟩ := h
  exact ⟨rfl, by show t = 2 ∨ t = 3 ∨ t = 4; omega⟩
theorem may3 {p : Pt} (hk : p.kind = 3) (h : mayP p = true) : p = idxP p.s ∧ nameB p.s = true := by
  obtain ⟨k, s, f, n, t⟩ := p
  simp only [] at hk
  subst hk
  unfold mayP at h
  simp only [] at h
  rw [if_neg (by decide), if_pos (by decide)] at h
  simp only [Bool.and_eq_true, decide_eq_true_eq] at h
  obtain ⟨rfl, rfl, rfl, h1⟩ := h
  exact ⟨rfl, h1⟩
/-- a leaf: a number, a variable, a field -/
theorem may_leaf {p : Pt} (ht : takes p = 0) (h : mayP p = true) : (∃ n t, p = numP n t ∧ (t = 1 → n = 0 ∨ n = 1)) ∨ (∃ s, p = varP s ∧ nameB s = true) ∨ (∃ s f, p = fldP s f ∧ nameB s = true) := by
  obtain ⟨k, s, f, n, t⟩ := p
  unfold takes at ht
  unfold mayP at h
  simp only [] at h ht
  by_cases h1 : k = 1
  · subst h1
    rw [if_pos rfl] at h
    simp only [Bool.and_eq_true, decide_eq_true_eq] at h
    obtain ⟨rfl, rfl, h3⟩ := h
    refine .inl ⟨n, t, rfl, fun e => ?_⟩
    subst e
    rw [if_neg (by decide)] at h3
    unfold fit6 at h3
    rw [if_pos rfl, Bool.or_eq_true] at h3
    exact h3.imp of_decide_eq_true of_decide_eq_true
  · rw [if_neg h1] at h
    by_cases h2 : k = 2
    · subst h2
      rw [if_pos (.inl rfl)] at h
      simp only [Bool.and_eq_true, decide_eq_true_eq] at h
      obtain ⟨rfl, rfl, rfl, h3⟩ := h
      exact .inr (.inl ⟨s, rfl, h3⟩)
    · by_cases h3 : k = 3
      · rw [if_pos (.inl h3)] at ht; cases ht
      · rw [if_neg (by omega)] at h
        by_cases h4 : k = 4
        · subst h4
          rw [if_pos rfl] at h
          simp only [Bool.and_eq_true, decide_eq_true_eq] at h
          obtain ⟨rfl, rfl, h5, _⟩ := h
          exact .inr (.inr ⟨s, f, rfl, h5⟩)
        · rw [if_neg h4] at h
          by_cases h5 : k = 5
          · rw [if_neg (by omega)] at ht
            split at ht
            · cases ht
            · first
              | (cases ht; done)
              | (rw [if_pos h5] at ht; cases ht)
          · rw [if_neg h5] at h
            by_cases h6 : k = 6
            · rw [if_pos (.inr h6)] at ht; cases ht
            · rw [if_neg h6] at h; cases h
theorem takes1 {p : Pt} (ht : takes p = 1) : p.kind = 3 ∨ p.kind = 6 ∨ (p.kind = 5 ∧ (p.n = 15 ∨ p.n = 16)) := by
  unfold takes at ht
  split at ht
  · next h => exact h.imp id .inl
  · split at ht
    · next h => exact .inr (.inr h)
    · split at ht <;> cases ht
theorem takes2 {p : Pt} (ht : takes p = 2) : p.kind = 5 ∧ ¬ (p.n = 15 ∨ p.n = 16) := by
  unfold takes at ht
  split at ht
  · cases ht
  · split at ht
    · cases ht
    · next h =>
      split at ht
      · next h5 => exact ⟨h5, fun e => h ⟨h5, e⟩⟩
      · cases ht
/-- the row of an operation -/
def rowOf (n : Int) : Nat := if n = 7 then 0 else if n = 8 then 1 else if n = 6 then 2 else if n = 9 ∨ n = 10 then 3 else if 11 ≤ n then 4 else if n = 1 ∨ n = 2 then 5 else 6
theorem op_row {n : Int} (h : 1 ≤ n ∧ n ≤ 14) : rowOf n < 7 ∧ opIn (rowOf n) (opTok n) = some n ∧ (∀ m, rowOf n < m → opIn m (opTok n) = none) ∧ isSign [91] (opTok n) = false ∧ isSign [46] (opTok n) = false := by
  have hn : n = 1 ∨ n = 2 ∨ n = 3 ∨ n = 4 ∨ n = 5 ∨ n = 6 ∨ n = 7 ∨ n = 8 ∨ n = 9 ∨ n = 10 ∨ n = 11 ∨ n = 12 ∨ n = 13 ∨ n = 14 := by omega
  have big : ∀ (m : Nat) (t : Tk), 7 ≤ m → opIn m t = none := fun m t hm => by
    unfold opIn
    have : rowOps m = [] := by
      unfold rowOps
      match m, hm with
      | m + 7, _ => rfl
    rw [this]
    rfl
  have fin : ∀ n : Int, (rowOf n < 7 ∧ opIn (rowOf n) (opTok n) = some n ∧ (∀ m : Fin 7, rowOf n < m.val → opIn m.val (opTok n) = none) ∧ isSign [91] (opTok n) = false ∧ isSign [46] (opTok n) = false) →
      rowOf n < 7 ∧ opIn (rowOf n) (opTok n) = some n ∧ (∀ m, rowOf n < m → opIn m (opTok n) = none) ∧ isSign [91] (opTok n) = false ∧ isSign [46] (opTok n) = false := fun n ⟨a, b, c, d⟩ =>
    ⟨a, b, fun m hm => if h : m < 7 then c ⟨m, h⟩ hm else big m _ (by omega), d⟩
  rcases hn with rfl | rfl | rfl | rfl | rfl | rfl | rfl | rfl | rfl | rfl | rfl | rfl | rfl | rfl <;> exact fin _ (by decide +kernel)
theorem un_tok {n : Int} (h : n = 15 ∨ n = 16) : unOp (opTok n) = some n := by rcases h with rfl | rfl <;> decide
/-- nothing goes on from here in the rows from n on -/
def quietFrom (n : Nat) (r : List Tk) : Prop := ∀ t q, r = t :: q → ∀ m, n ≤ m → opIn m t = none
theorem quiet_more {n m : Nat} {r : List Tk} (h : quietFrom n r) (hm : n ≤ m) : quietFrom m r := fun t q e k hk => h t q e k (by omega)
theorem lift_row {d : Nat} {l r : List Tk} {x : List Pt} (h : Reads .una d l x r) : ∀ (j n : Nat), n + j = 7 → quietFrom n r → Reads (.row n) d l x r
  | 0, n, e, _ => .top (by omega) h
  | j + 1, n, e, hq => by
    have := Reads.row (n := n) (by omega) (lift_row h j (n + 1) (by omega) (quiet_more hq (by omega))) (.stop (d := d) (fun t q er => hq t q er n (Nat.le_refl _)))
    rwa [List.append_nil] at this
theorem lift_from {d m : Nat} {l r : List Tk} {x : List Pt} (h : Reads (.row m) d l x r) (hm : m ≤ 7) : ∀ (j n : Nat), n + j = m → quietFrom n r → Reads (.row n) d l x r
  | 0, n, e, _ => by rw [Nat.add_zero] at e; rw [e]; exact h
  | j + 1, n, e, hq => by
    have := Reads.row (n := n) (by omega) (lift_from h hm j (n + 1) (by omega) (quiet_more hq (by omega))) (.stop (d := d) (fun t q er => hq t q er n (Nat.le_refl _)))
    rwa [List.append_nil] at this
def soft (r : List Tk) : Prop := ∀ u q, r = u :: q → isSign [91] u = false ∧ isSign [46] u = false
theorem soft_sign {s : Bs} (h1 : s ≠ [91]) (h2 : s ≠ [46]) (r : List Tk) : soft (signT s :: r) := fun u q e => by
  injection e with e1 _
  rw [← e1]
  unfold isSign signT
  exact ⟨by simp [h1], by simp [h2]⟩
theorem stops_soft {r : List Tk} (h : stops r) : soft r := fun u q e => (h u q e).2
theorem stops_quiet {r : List Tk} (h : stops r) : quietFrom 0 r := fun t q e m _ => (h t q e).1 m
theorem stops_close (r : List Tk) : stops (signT [41] :: r) ∧ stops (signT [93] :: r) := by
  have big : ∀ (s : Bs) (m : Nat), (s = [41] ∨ s = [93]) → opIn m (signT s) = none := fun s m hs => by
    match m with
    | 0 => rcases hs with rfl | rfl <;> rfl
    | 1 => rcases hs with rfl | rfl <;> rfl
    | 2 => rcases hs with rfl | rfl <;> rfl
    | 3 => rcases hs with rfl | rfl <;> rfl
    | 4 => rcases hs with rfl | rfl <;> rfl
    | 5 => rcases hs with rfl | rfl <;> rfl
    | 6 => rcases hs with rfl | rfl <;> rfl
    | m + 7 => rcases hs with rfl | rfl <;> rfl
  constructor
  · intro t q e
    injection e with e1 _
    rw [← e1]
    exact ⟨fun n => big _ n (.inl rfl), by decide, by decide⟩
  · intro t q e
    injection e with e1 _
    rw [← e1]
    exact ⟨fun n => big _ n (.inr rfl), by decide, by decide⟩
theorem to_word {t : Int} (h : t = 2 ∨ t = 3 ∨ t = 4) : toT (toW t) = t ∧ unOp (wordT (toW t)) = none := by rcases h with rfl | rfl | rfl <;> decide
theorem name_not {s : Bs} (h : nameB s = true) : unOp (wordT s) = none := by
  unfold unOp
  rw [if_neg (fun e => absurd (show (1 : Int) = 3 from e.1) (by decide)), if_neg (fun e => ?_)]
  have : s = [78, 79, 84] := e.2
  rw [this] at h
  exact absurd h (by decide)
/-- how a value within an operation, and a whole expression, is read -/
def Atom (e : Ex) : Prop := ∀ d r, soft r → d + 2 * dep e ≤ 190 → Reads .una d (showE e true ++ r) (flat e) r ∧ Reads .pri d (showE e true ++ r) (flat e) r
def Full (e : Ex) : Prop := ∀ d r, stops r → d + 2 * dep e ≤ 191 → Reads (.row 0) d (showE e false ++ r) (flat e) r
theorem bare_of {d : Nat} {t : Tk} {q r : List Tk} {x : List Pt} (h : unOp t = none) (h1 : Reads .pri d (t :: q) x r) : Reads .una d (t :: q) x r ∧ Reads .pri d (t :: q) x r := ⟨.bare h h1, h1⟩
theorem full_of_atom {e : Ex} (hs : showE e true = showE e false) (ha : ∀ d r, soft r → d + 2 * dep e ≤ 191 → Reads .una d (showE e true ++ r) (flat e) r) : Full e := fun d r hr hd => by
  have := ha d r (stops_soft hr) hd
  rw [hs] at this
  exact lift_row this 7 0 rfl (stops_quiet hr)
theorem shown : ∀ {e : Ex}, well e → Atom e ∧ Full e
  | .leaf p, h => by
    have key : ∀ d r, soft r → Reads .una d (showE (.leaf p) true ++ r) (flat (.leaf p)) r ∧ Reads .pri d (showE (.leaf p) true ++ r) (flat (.leaf p)) r := fun d r hr => by
      rcases may_leaf h.1 h.2 with ⟨n, t, rfl, hb⟩ | ⟨s, rfl, hn⟩ | ⟨s, f, rfl, hn⟩
      · by_cases h1 : t = 1
        · subst h1
          rcases hb rfl with rfl | rfl
          · exact bare_of (t := wordT falB) (by decide) (.fal rfl rfl)
          · exact bare_of (t := wordT truB) (by decide) (.tru rfl rfl)
        · have e : showE (.leaf (numP n t)) true = [numT n t] := by
            show (if (1 : Int) = 1 then (if t = 1 then _ else _) else _) = _
            rw [if_pos rfl, if_neg h1]; rfl
          rw [e]
          exact bare_of (t := numT n t) (by unfold unOp; rw [if_neg (fun e => absurd (show (2 : Int) = 3 from e.1) (by decide)), if_neg (fun e => absurd (show (2 : Int) = 1 from e.1) (by decide))]) (.num rfl)
      · exact bare_of (t := wordT s) (name_not hn) (.var rfl hn hr)
      · exact bare_of (t := wordT s) (name_not hn) (.fld (u := signT [46]) (v := wordT f) rfl hn (by decide) rfl)
    exact ⟨fun d r hr _ => key d r hr, full_of_atom rfl (fun d r hr _ => (key d r hr).1)⟩
  | .one p e, h => by
    obtain ⟨ht, hm, hw⟩ := h
    obtain ⟨iA, iF⟩ := shown hw
    rcases takes1 ht with hk | hk | ⟨hk, hn⟩
    · obtain ⟨hp, hname⟩ := may3 hk hm
      have es : ∀ i, showE (.one p e) i = wordT p.s :: signT [91] :: (showE e false ++ [signT [93]]) := fun i => by
        show (if p.kind = 3 then _ else _) = _
        rw [if_pos hk]
      have ef : flat (.one p e) = flat e ++ [idxP p.s] := by show flat e ++ [p] = _; rw [← hp]
      have key : ∀ d r, d + 2 * dep (.one p e) ≤ 191 → Reads .una d (showE (.one p e) true ++ r) (flat (.one p e)) r ∧ Reads .pri d (showE (.one p e) true ++ r) (flat (.one p e)) r := fun d r hd => by
        have hd' : d + 2 * (dep e + 1) ≤ 191 := hd
        have := iF (d + 1) (signT [93] :: r) (stops_close r).2 (by omega)
        rw [es, ef]
        have e2 : (wordT p.s :: signT [91] :: (showE e false ++ [signT [93]])) ++ r = wordT p.s :: signT [91] :: (showE e false ++ signT [93] :: r) := by simp
        rw [e2]
        exact bare_of (name_not hname) (.idx (t := wordT p.s) (u := signT [91]) rfl hname (by decide) (by omega) this (by decide))
      exact ⟨fun d r _ hd => key d r (by omega), full_of_atom (by rw [es, es]) (fun d r _ hd => (key d r hd).1)⟩
    · obtain ⟨hp, htt⟩ := may6 hk hm
      obtain ⟨w1, w2⟩ := to_word htt
      have es : ∀ i, showE (.one p e) i = wordT (toW p.t) :: signT [40] :: (showE e false ++ [signT [41]]) := fun i => by
        show (if p.kind = 3 then _ else _) = _
        rw [if_neg (by omega), if_pos hk]
      have ef : flat (.one p e) = flat e ++ [toP (toT (wordT (toW p.t)).s)] := by
        show flat e ++ [p] = flat e ++ [toP (toT (toW p.t))]
        rw [w1, ← hp]
      have key : ∀ d r, d + 2 * dep (.one p e) ≤ 191 → Reads .una d (showE (.one p e) true ++ r) (flat (.one p e)) r ∧ Reads .pri d (showE (.one p e) true ++ r) (flat (.one p e)) r := fun d r hd => by
        have hd' : d + 2 * (dep e + 1) ≤ 191 := hd
        have := iF (d + 1) (signT [41] :: r) (stops_close r).1 (by omega)
        rw [es, ef]
        have e2 : (wordT (toW p.t) :: signT [40] :: (showE e false ++ [signT [41]])) ++ r = wordT (toW p.t) :: signT [40] :: (showE e false ++ signT [41] :: r) := by simp
        rw [e2]
        exact bare_of w2 (.conv (t := wordT (toW p.t)) (u := signT [40]) rfl (by show toT (toW p.t) ≠ 0; rw [w1]; omega) (by decide) (by omega) this (by decide))
      exact ⟨fun d r _ hd => key d r (by omega), full_of_atom (by rw [es, es]) (fun d r _ hd => (key d r hd).1)⟩
    · obtain ⟨hp, _⟩ := may5 hk hm
      have es : ∀ i, showE (.one p e) i = brk i (opTok p.n :: showE e true) := fun i => by
        show (if p.kind = 3 then _ else _) = _
        rw [if_neg (by omega), if_neg (by omega)]
      have ef : flat (.one p e) = flat e ++ [opP p.n] := by show flat e ++ [p] = _; rw [← hp]
      have full : Full (.one p e) := fun d r hr hd => by
        have hd' : d + 2 * (dep e + 1) ≤ 191 := hd
        rw [es, ef]
        have := (iA (d + 1) r (stops_soft hr) (by omega)).1
        exact lift_row (.sign (t := opTok p.n) (un_tok hn) (by omega) this) 7 0 rfl (stops_quiet hr)
      refine ⟨fun d r hr hd => ?_, full⟩
      have hf := full (d + 1) (signT [41] :: r) (stops_close r).1 (by omega)
      have e1 := es true
      have e0 := es false
      have e2 : showE (.one p e) true ++ r = signT [40] :: (showE (.one p e) false ++ signT [41] :: r) := by rw [e1, e0]; simp [brk]
      rw [e2]
      exact bare_of (by decide) (.par (t := signT [40]) (by decide) (by omega) hf (by decide))
  | .two p a b, h => by
    obtain ⟨ht, hm, hwa, hwb⟩ := h
    obtain ⟨aA, _⟩ := shown hwa
    obtain ⟨bA, _⟩ := shown hwb
    obtain ⟨hk, hn⟩ := takes2 ht
    obtain ⟨hp, h1, h16⟩ := may5 hk hm
    obtain ⟨o1, o2, o3, o4, o5⟩ := op_row (n := p.n) ⟨h1, by omega⟩
    have ef : flat (.two p a b) = flat a ++ (flat b ++ opP p.n :: []) := by show flat a ++ (flat b ++ [p]) = _; rw [← hp]
    have full : Full (.two p a b) := fun d r hr hd => by
      have hd' : d + 2 * (max (dep b) (dep a) + 1) ≤ 191 := hd
      have e2 : showE (.two p a b) false ++ r = showE a true ++ opTok p.n :: (showE b true ++ r) := by
        show (showE a true ++ opTok p.n :: showE b true) ++ r = _
        simp
      rw [e2, ef]
      have ra := (aA d (opTok p.n :: (showE b true ++ r)) (fun u q e => by injection e with e1 _; rw [← e1]; exact ⟨o4, o5⟩) (by omega)).1
      have rb := (bA d r (stops_soft hr) (by omega)).1
      have la := lift_row ra (7 - (rowOf p.n + 1)) (rowOf p.n + 1) (by omega) (fun t q e m hm => by injection e with e1 _; rw [← e1]; exact o3 m (by omega))
      have lb := lift_row rb (7 - (rowOf p.n + 1)) (rowOf p.n + 1) (by omega) (quiet_more (stops_quiet hr) (by omega))
      have lo := Reads.more (n := rowOf p.n) o2 lb (.stop (d := d) (fun t q e => (hr t q e).1 _))
      exact lift_from (.row o1 la lo) (by omega) (rowOf p.n) 0 (by omega) (stops_quiet hr)
    refine ⟨fun d r hr hd => ?_, full⟩
    have hf := full (d + 1) (signT [41] :: r) (stops_close r).1 (by omega)
    have e2 : showE (.two p a b) true ++ r = signT [40] :: (showE (.two p a b) false ++ signT [41] :: r) := by
      show (brk true (showE a true ++ opTok p.n :: showE b true)) ++ r = signT [40] :: ((brk false (showE a true ++ opTok p.n :: showE b true)) ++ signT [41] :: r)
      simp [brk]
    rw [e2]
    exact bare_of (by decide) (.par (t := signT [40]) (by decide) (by omega) hf (by decide))
end Go.Proofs.YtldjiieckddhkaaGreatDoor
