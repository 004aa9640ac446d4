/- Read | ShwE | BckE -/
import Derived.Test.YtldjiieckddhkaaGreatDoorMg0
namespace Go.Proofs.YtldjiieckddhkaaGreatDoor
inductive Reads : Md → Nat → List Tk → List Pt → List Tk → Prop
  | top {n d : Nat} {l r : List Tk} {x : List Pt} (h : 7 ≤ n) (h1 : Reads .una d l x r) : Reads (.row n) d l x r
  | row {n d : Nat} {l r r' : List Tk} {x y : List Pt} (h : n < 7) (h1 : Reads (.row (n + 1)) d l x r) (h2 : Reads (.loop n) d r y r') : Reads (.row n) d l (x ++ y) r'
  | stop {n d : Nat} {l : List Tk} (h : ∀ t q, l = t :: q → opIn n t = none) : Reads (.loop n) d l [] l
  | more {n d : Nat} {t : Tk} {k : Int} {q r r' : List Tk} {x y : List Pt} (h : opIn n t = some k) (h1 : Reads (.row (n + 1)) d q x r) (h2 : Reads (.loop n) d r y r') : Reads (.loop n) d (t :: q) (x ++ opP k :: y) r'
  | bare {d : Nat} {t : Tk} {q r : List Tk} {x : List Pt} (h : unOp t = none) (h1 : Reads .pri d (t :: q) x r) : Reads .una d (t :: q) x r
  | sign {d : Nat} {t : Tk} {k : Int} {q r : List Tk} {x : List Pt} (h : unOp t = some k) (hd : d < 200) (h1 : Reads .una (d + 1) q x r) : Reads .una d (t :: q) (x ++ [opP k]) r
  | num {d : Nat} {t : Tk} {q : List Tk} (h : t.kind = 2) : Reads .pri d (t :: q) [numP t.n t.ty] q
  | tru {d : Nat} {t : Tk} {q : List Tk} (h : t.kind = 1) (hs : t.s = truB) : Reads .pri d (t :: q) [numP 1 1] q
  | fal {d : Nat} {t : Tk} {q : List Tk} (h : t.kind = 1) (hs : t.s = falB) : Reads .pri d (t :: q) [numP 0 1] q
  | conv {d : Nat} {t u v : Tk} {q r : List Tk} {x : List Pt} (h : t.kind = 1) (hs : toT t.s ≠ 0) (hu : isSign [40] u = true) (hd : d < 200) (h1 : Reads (.row 0) (d + 1) q x (v :: r)) (hv : isSign [41] v = true) : Reads .pri d (t :: u :: q) (x ++ [toP (toT t.s)]) r
  | idx {d : Nat} {t u v : Tk} {q r : List Tk} {x : List Pt} (h : t.kind = 1) (hs : nameB t.s = true) (hu : isSign [91] u = true) (hd : d < 200) (h1 : Reads (.row 0) (d + 1) q x (v :: r)) (hv : isSign [93] v = true) : Reads .pri d (t :: u :: q) (x ++ [idxP t.s]) r
  | fld {d : Nat} {t u v : Tk} {r : List Tk} (h : t.kind = 1) (hs : nameB t.s = true) (hu : isSign [46] u = true) (hv : v.kind = 1) : Reads .pri d (t :: u :: v :: r) [fldP t.s v.s] r
  | var {d : Nat} {t : Tk} {r : List Tk} (h : t.kind = 1) (hs : nameB t.s = true) (hr : ∀ u q, r = u :: q → isSign [91] u = false ∧ isSign [46] u = false) : Reads .pri d (t :: r) [varP t.s] r
  | par {d : Nat} {t v : Tk} {q r : List Tk} {x : List Pt} (ht : isSign [40] t = true) (hd : d < 200) (h1 : Reads (.row 0) (d + 1) q x (v :: r)) (hv : isSign [41] v = true) : Reads .pri d (t :: q) x r
def strict : Md → Nat
  | .loop _ => 0
  | _ => 1
theorem Reads.len {m : Md} {d : Nat} {l r : List Tk} {x : List Pt} (h : Reads m d l x r) : r.length + strict m ≤ l.length := by
  induction h with
  | top _ _ ih => exact ih
  | row _ _ _ ih1 ih2 => simp only [strict] at *; omega
  | stop _ => simp [strict]
  | more _ _ _ ih1 ih2 => simp only [strict, List.length_cons] at *; omega
  | bare _ _ ih => exact ih
  | sign _ _ _ ih => simp only [strict, List.length_cons] at *; omega
  | num _ => simp [strict]
  | tru _ _ => simp [strict]
  | fal _ _ => simp [strict]
  | conv _ _ _ _ _ _ ih => simp only [strict, List.length_cons] at *; omega
  | idx _ _ _ _ _ _ ih => simp only [strict, List.length_cons] at *; omega
  | fld _ _ _ _ => simp [strict]
  | var _ _ _ => simp [strict]
  | par _ _ _ _ ih => simp only [strict, List.length_cons] at *; omega
def stops (r : List Tk) : Prop := ∀ t q, r = t :: q → (∀ n, opIn n t = none) ∧ isSign [91] t = false ∧ isSign [46] t = false
end Go.Proofs.YtldjiieckddhkaaGreatDoor
namespace Go.Proofs.YtldjiieckddhkaaGreatDoor
inductive Ex
  | leaf (p : Pt)
  | one (p : Pt) (e : Ex)
  | two (p : Pt) (a b : Ex)
def flat : Ex → List Pt
  | .leaf p => [p]
  | .one p e => flat e ++ [p]
  | .two p a b => flat a ++ (flat b ++ [p])
def dep : Ex → Nat
  | .leaf _ => 1
  | .one _ e => dep e + 1
  | .two _ a b => max (dep b) (dep a) + 1
def fit6 (t n : Int) : Bool := if t = 1 then decide (n = 0) || decide (n = 1) else if t = 2 then decide (-32768 ≤ n) && decide (n ≤ 32767) else if t = 3 ∨ t = 4 then decide (-2147483648 ≤ n) && decide (n ≤ 2147483647) else false
def mayP (p : Pt) : Bool :=
  if p.kind = 1 then decide (p.s = []) && (decide (p.f = []) && (if p.t = 0 then decide (-2147483648 ≤ p.n) && decide (p.n ≤ 2147483648) else fit6 p.t p.n))
  else if p.kind = 2 ∨ p.kind = 3 then decide (p.f = []) && (decide (p.n = 0) && (decide (p.t = 0) && nameB p.s))
  else if p.kind = 4 then decide (p.n = 0) && (decide (p.t = 0) && (nameB p.s && wordB p.f))
  else if p.kind = 5 then decide (p.s = []) && (decide (p.f = []) && (decide (p.t = 0) && (decide (1 ≤ p.n) && decide (p.n ≤ 16))))
  else if p.kind = 6 then decide (p.s = []) && (decide (p.f = []) && (decide (p.n = 0) && (decide (2 ≤ p.t) && decide (p.t ≤ 4))))
  else false
def well : Ex → Prop
  | .leaf p => takes p = 0 ∧ mayP p = true
  | .one p e => takes p = 1 ∧ mayP p = true ∧ well e
  | .two p a b => takes p = 2 ∧ mayP p = true ∧ well a ∧ well b
def opTok (n : Int) : Tk :=
  if n = 1 then signT [43] else
  if n = 2 then signT [45] else
  if n = 3 then signT [42] else
  if n = 4 then signT [47] else
  if n = 5 then wordT [77, 79, 68] else
  if n = 6 then wordT [65, 78, 68] else
  if n = 7 then wordT [79, 82] else
  if n = 8 then wordT [88, 79, 82] else
  if n = 9 then signT [61] else
  if n = 10 then signT [60, 62] else
  if n = 11 then signT [60] else
  if n = 12 then signT [60, 61] else
  if n = 13 then signT [62] else
  if n = 14 then signT [62, 61] else
  if n = 15 then signT [45] else
  wordT [78, 79, 84]
def toW (t : Int) : Bs := if t = 2 then [84, 79, 95, 73, 78, 84] else if t = 3 then [84, 79, 95, 68, 73, 78, 84] else [84, 79, 95, 84, 73, 77, 69]
def brk (inner : Bool) (l : List Tk) : List Tk := if inner then signT [40] :: (l ++ [signT [41]]) else l
def showE : Ex → Bool → List Tk
  | .leaf p, _ => if p.kind = 1 then (if p.t = 1 then [wordT (if p.n = 1 then truB else falB)] else [numT p.n p.t]) else if p.kind = 2 then [wordT p.s] else [wordT p.s, signT [46], wordT p.f]
  | .one p e, inner =>
    if p.kind = 3 then wordT p.s :: signT [91] :: (showE e false ++ [signT [93]])
    else if p.kind = 6 then wordT (toW p.t) :: signT [40] :: (showE e false ++ [signT [41]])
    else brk inner (opTok p.n :: showE e true)
  | .two p a b, inner => brk inner (showE a true ++ opTok p.n :: showE b true)
theorem may5 {p : Pt} (hk : p.kind = 5) (h : mayP p = true) : p = opP p.n ∧ 1 ≤ p.n ∧ p.n ≤ 16 := by
  obtain ⟨k, s, f, n, t⟩ := p
  simp only [] at hk
  subst hk
  unfold mayP at h
  simp only [] at h
  rw [if_neg (by decide), if_neg (by decide), if_neg (by decide), if_pos (by decide)] at h
  simp only [Bool.and_eq_true, decide_eq_true_eq] at h
  obtain ⟨rfl, rfl, rfl, h1, h2⟩ := h
  exact ⟨rfl, h1, h2⟩
theorem may6 {p : Pt} (hk : p.kind = 6) (h : mayP p = true) : p = toP p.t ∧ (p.t = 2 ∨ p.t = 3 ∨ p.t = 4) := by
  obtain ⟨k, s, f, n, t⟩ := p
  simp only [] at hk
  subst hk
  unfold mayP at h
  simp only [] at h
  rw [if_neg (by decide), if_neg (by decide), if_neg (by decide), if_neg (by decide), if_pos (by decide)] at h
  simp only [Bool.and_eq_true, decide_eq_true_eq] at h
  obtain ⟨rfl, rfl, rfl, h1, h2⟩ := h
  exact ⟨rfl, by show t = 2 ∨ t = 3 ∨ t = 4; omega⟩
theorem may3 {p : Pt} (hk : p.kind = 3) (h : mayP p = true) : p = idxP p.s ∧ nameB p.s = true := by
  obtain ⟨k, s, f, n, t⟩ := p
  simp only [] at hk
  subst hk
  unfold mayP at h
  simp only [] at h
  rw [if_neg (by decide), if_pos (by decide)] at h
  simp only [Bool.and_eq_true, decide_eq_true_eq] at h
  obtain ⟨rfl, rfl, rfl, h1⟩ := h
  exact ⟨rfl, h1⟩
theorem may_leaf {p : Pt} (ht : takes p = 0) (h : mayP p = true) : (∃ n t, p = numP n t ∧ (t = 1 → n = 0 ∨ n = 1)) ∨ (∃ s, p = varP s ∧ nameB s = true) ∨ (∃ s f, p = fldP s f ∧ nameB s = true) := by
  obtain ⟨k, s, f, n, t⟩ := p
  unfold takes at ht
  unfold mayP at h
  simp only [] at h ht
  by_cases h1 : k = 1
  · subst h1
    rw [if_pos rfl] at h
    simp only [Bool.and_eq_true, decide_eq_true_eq] at h
    obtain ⟨rfl, rfl, h3⟩ := h
    refine .inl ⟨n, t, rfl, fun e => ?_⟩
    subst e
    rw [if_neg (by decide)] at h3
    unfold fit6 at h3
    rw [if_pos rfl, Bool.or_eq_true] at h3
    exact h3.imp of_decide_eq_true of_decide_eq_true
  · rw [if_neg h1] at h
    by_cases h2 : k = 2
    · subst h2
      rw [if_pos (.inl rfl)] at h
      simp only [Bool.and_eq_true, decide_eq_true_eq] at h
      obtain ⟨rfl, rfl, rfl, h3⟩ := h
      exact .inr (.inl ⟨s, rfl, h3⟩)
    · by_cases h3 : k = 3
      · rw [if_pos (.inl h3)] at ht; cases ht
      · rw [if_neg (by omega)] at h
        by_cases h4 : k = 4
        · subst h4
          rw [if_pos rfl] at h
          simp only [Bool.and_eq_true, decide_eq_true_eq] at h
          obtain ⟨rfl, rfl, h5, _⟩ := h
          exact .inr (.inr ⟨s, f, rfl, h5⟩)
        · rw [if_neg h4] at h
          by_cases h5 : k = 5
          · rw [if_neg (by omega)] at ht
            split at ht
            · cases ht
            · first
              | (cases ht; done)
              | (rw [if_pos h5] at ht; cases ht)
          · rw [if_neg h5] at h
            by_cases h6 : k = 6
            · rw [if_pos (.inr h6)] at ht; cases ht
            · rw [if_neg h6] at h; cases h
theorem takes1 {p : Pt} (ht : takes p = 1) : p.kind = 3 ∨ p.kind = 6 ∨ (p.kind = 5 ∧ (p.n = 15 ∨ p.n = 16)) := by
  unfold takes at ht
  split at ht
  · next h => exact h.imp id .inl
  · split at ht
    · next h => exact .inr (.inr h)
    · split at ht <;> cases ht
theorem takes2 {p : Pt} (ht : takes p = 2) : p.kind = 5 ∧ ¬ (p.n = 15 ∨ p.n = 16) := by
  unfold takes at ht
  split at ht
  · cases ht
  · split at ht
    · cases ht
    · next h =>
      split at ht
      · next h5 => exact ⟨h5, fun e => h ⟨h5, e⟩⟩
      · cases ht
def rowOf (n : Int) : Nat := if n = 7 then 0 else if n = 8 then 1 else if n = 6 then 2 else if n = 9 ∨ n = 10 then 3 else if 11 ≤ n then 4 else if n = 1 ∨ n = 2 then 5 else 6
theorem op_row {n : Int} (h : 1 ≤ n ∧ n ≤ 14) : rowOf n < 7 ∧ opIn (rowOf n) (opTok n) = some n ∧ (∀ m, rowOf n < m → opIn m (opTok n) = none) ∧ isSign [91] (opTok n) = false ∧ isSign [46] (opTok n) = false := by
  have hn : n = 1 ∨ n = 2 ∨ n = 3 ∨ n = 4 ∨ n = 5 ∨ n = 6 ∨ n = 7 ∨ n = 8 ∨ n = 9 ∨ n = 10 ∨ n = 11 ∨ n = 12 ∨ n = 13 ∨ n = 14 := by omega
  have big : ∀ (m : Nat) (t : Tk), 7 ≤ m → opIn m t = none := fun m t hm => by
    unfold opIn
    have : rowOps m = [] := by
      unfold rowOps
      match m, hm with
      | m + 7, _ => rfl
    rw [this]
    rfl
  have fin : ∀ n : Int, (rowOf n < 7 ∧ opIn (rowOf n) (opTok n) = some n ∧ (∀ m : Fin 7, rowOf n < m.val → opIn m.val (opTok n) = none) ∧ isSign [91] (opTok n) = false ∧ isSign [46] (opTok n) = false) →
      rowOf n < 7 ∧ opIn (rowOf n) (opTok n) = some n ∧ (∀ m, rowOf n < m → opIn m (opTok n) = none) ∧ isSign [91] (opTok n) = false ∧ isSign [46] (opTok n) = false := fun n ⟨a, b, c, d⟩ =>
    ⟨a, b, fun m hm => if h : m < 7 then c ⟨m, h⟩ hm else big m _ (by omega), d⟩
  rcases hn with rfl | rfl | rfl | rfl | rfl | rfl | rfl | rfl | rfl | rfl | rfl | rfl | rfl | rfl <;> exact fin _ (by decide +kernel)
theorem un_tok {n : Int} (h : n = 15 ∨ n = 16) : unOp (opTok n) = some n := by rcases h with rfl | rfl <;> decide
def quietFrom (n : Nat) (r : List Tk) : Prop := ∀ t q, r = t :: q → ∀ m, n ≤ m → opIn m t = none
theorem quiet_more {n m : Nat} {r : List Tk} (h : quietFrom n r) (hm : n ≤ m) : quietFrom m r := fun t q e k hk => h t q e k (by omega)
theorem lift_row {d : Nat} {l r : List Tk} {x : List Pt} (h : Reads .una d l x r) : ∀ (j n : Nat), n + j = 7 → quietFrom n r → Reads (.row n) d l x r
  | 0, n, e, _ => .top (by omega) h
  | j + 1, n, e, hq => by
    have := Reads.row (n := n) (by omega) (lift_row h j (n + 1) (by omega) (quiet_more hq (by omega))) (.stop (d := d) (fun t q er => hq t q er n (Nat.le_refl _)))
    rwa [List.append_nil] at this
theorem lift_from {d m : Nat} {l r : List Tk} {x : List Pt} (h : Reads (.row m) d l x r) (hm : m ≤ 7) : ∀ (j n : Nat), n + j = m → quietFrom n r → Reads (.row n) d l x r
  | 0, n, e, _ => by rw [Nat.add_zero] at e; rw [e]; exact h
  | j + 1, n, e, hq => by
    have := Reads.row (n := n) (by omega) (lift_from h hm j (n + 1) (by omega) (quiet_more hq (by omega))) (.stop (d := d) (fun t q er => hq t q er n (Nat.le_refl _)))
    rwa [List.append_nil] at this
def soft (r : List Tk) : Prop := ∀ u q, r = u :: q → isSign [91] u = false ∧ isSign [46] u = false
theorem stops_soft {r : List Tk} (h : stops r) : soft r := fun u q e => (h u q e).2
theorem stops_quiet {r : List Tk} (h : stops r) : quietFrom 0 r := fun t q e m _ => (h t q e).1 m
theorem stops_close (r : List Tk) : stops (signT [41] :: r) ∧ stops (signT [93] :: r) := by
  have big : ∀ (s : Bs) (m : Nat), (s = [41] ∨ s = [93]) → opIn m (signT s) = none := fun s m hs => by
    match m with
    | 0 => rcases hs with rfl | rfl <;> rfl
    | 1 => rcases hs with rfl | rfl <;> rfl
    | 2 => rcases hs with rfl | rfl <;> rfl
    | 3 => rcases hs with rfl | rfl <;> rfl
    | 4 => rcases hs with rfl | rfl <;> rfl
    | 5 => rcases hs with rfl | rfl <;> rfl
    | 6 => rcases hs with rfl | rfl <;> rfl
    | m + 7 => rcases hs with rfl | rfl <;> rfl
  constructor
  · intro t q e
    injection e with e1 _
    rw [← e1]
    exact ⟨fun n => big _ n (.inl rfl), by decide, by decide⟩
  · intro t q e
    injection e with e1 _
    rw [← e1]
    exact ⟨fun n => big _ n (.inr rfl), by decide, by decide⟩
theorem to_word {t : Int} (h : t = 2 ∨ t = 3 ∨ t = 4) : toT (toW t) = t ∧ unOp (wordT (toW t)) = none := by rcases h with rfl | rfl | rfl <;> decide
theorem name_not {s : Bs} (h : nameB s = true) : unOp (wordT s) = none := by
  unfold unOp
  rw [if_neg (fun e => absurd (show (1 : Int) = 3 from e.1) (by decide)), if_neg (fun e => ?_)]
  have : s = [78, 79, 84] := e.2
  rw [this] at h
  exact absurd h (by decide)
def Atom (e : Ex) : Prop := ∀ d r, soft r → d + 2 * dep e ≤ 190 → Reads .una d (showE e true ++ r) (flat e) r ∧ Reads .pri d (showE e true ++ r) (flat e) r
def Full (e : Ex) : Prop := ∀ d r, stops r → d + 2 * dep e ≤ 191 → Reads (.row 0) d (showE e false ++ r) (flat e) r
theorem bare_of {d : Nat} {t : Tk} {q r : List Tk} {x : List Pt} (h : unOp t = none) (h1 : Reads .pri d (t :: q) x r) : Reads .una d (t :: q) x r ∧ Reads .pri d (t :: q) x r := ⟨.bare h h1, h1⟩
theorem full_of_atom {e : Ex} (hs : showE e true = showE e false) (ha : ∀ d r, soft r → d + 2 * dep e ≤ 191 → Reads .una d (showE e true ++ r) (flat e) r) : Full e := fun d r hr hd => by
  have := ha d r (stops_soft hr) hd
  rw [hs] at this
  exact lift_row this 7 0 rfl (stops_quiet hr)
theorem shown : ∀ {e : Ex}, well e → Atom e ∧ Full e
  | .leaf p, h => by
    have key : ∀ d r, soft r → Reads .una d (showE (.leaf p) true ++ r) (flat (.leaf p)) r ∧ Reads .pri d (showE (.leaf p) true ++ r) (flat (.leaf p)) r := fun d r hr => by
      rcases may_leaf h.1 h.2 with ⟨n, t, rfl, hb⟩ | ⟨s, rfl, hn⟩ | ⟨s, f, rfl, hn⟩
      · by_cases h1 : t = 1
        · subst h1
          rcases hb rfl with rfl | rfl
          · exact bare_of (t := wordT falB) (by decide) (.fal rfl rfl)
          · exact bare_of (t := wordT truB) (by decide) (.tru rfl rfl)
        · have e : showE (.leaf (numP n t)) true = [numT n t] := by
            show (if (1 : Int) = 1 then (if t = 1 then _ else _) else _) = _
            rw [if_pos rfl, if_neg h1]; rfl
          rw [e]
          exact bare_of (t := numT n t) (by unfold unOp; rw [if_neg (fun e => absurd (show (2 : Int) = 3 from e.1) (by decide)), if_neg (fun e => absurd (show (2 : Int) = 1 from e.1) (by decide))]) (.num rfl)
      · exact bare_of (t := wordT s) (name_not hn) (.var rfl hn hr)
      · exact bare_of (t := wordT s) (name_not hn) (.fld (u := signT [46]) (v := wordT f) rfl hn (by decide) rfl)
    exact ⟨fun d r hr _ => key d r hr, full_of_atom rfl (fun d r hr _ => (key d r hr).1)⟩
  | .one p e, h => by
    obtain ⟨ht, hm, hw⟩ := h
    obtain ⟨iA, iF⟩ := shown hw
    rcases takes1 ht with hk | hk | ⟨hk, hn⟩
    · obtain ⟨hp, hname⟩ := may3 hk hm
      have es : ∀ i, showE (.one p e) i = wordT p.s :: signT [91] :: (showE e false ++ [signT [93]]) := fun i => by
        show (if p.kind = 3 then _ else _) = _
        rw [if_pos hk]
      have ef : flat (.one p e) = flat e ++ [idxP p.s] := by show flat e ++ [p] = _; rw [← hp]
      have key : ∀ d r, d + 2 * dep (.one p e) ≤ 191 → Reads .una d (showE (.one p e) true ++ r) (flat (.one p e)) r ∧ Reads .pri d (showE (.one p e) true ++ r) (flat (.one p e)) r := fun d r hd => by
        have hd' : d + 2 * (dep e + 1) ≤ 191 := hd
        have := iF (d + 1) (signT [93] :: r) (stops_close r).2 (by omega)
        rw [es, ef]
        have e2 : (wordT p.s :: signT [91] :: (showE e false ++ [signT [93]])) ++ r = wordT p.s :: signT [91] :: (showE e false ++ signT [93] :: r) := by simp
        rw [e2]
        exact bare_of (name_not hname) (.idx (t := wordT p.s) (u := signT [91]) rfl hname (by decide) (by omega) this (by decide))
      exact ⟨fun d r _ hd => key d r (by omega), full_of_atom (by rw [es, es]) (fun d r _ hd => (key d r hd).1)⟩
    · obtain ⟨hp, htt⟩ := may6 hk hm
      obtain ⟨w1, w2⟩ := to_word htt
      have es : ∀ i, showE (.one p e) i = wordT (toW p.t) :: signT [40] :: (showE e false ++ [signT [41]]) := fun i => by
        show (if p.kind = 3 then _ else _) = _
        rw [if_neg (by omega), if_pos hk]
      have ef : flat (.one p e) = flat e ++ [toP (toT (wordT (toW p.t)).s)] := by
        show flat e ++ [p] = flat e ++ [toP (toT (toW p.t))]
        rw [w1, ← hp]
      have key : ∀ d r, d + 2 * dep (.one p e) ≤ 191 → Reads .una d (showE (.one p e) true ++ r) (flat (.one p e)) r ∧ Reads .pri d (showE (.one p e) true ++ r) (flat (.one p e)) r := fun d r hd => by
        have hd' : d + 2 * (dep e + 1) ≤ 191 := hd
        have := iF (d + 1) (signT [41] :: r) (stops_close r).1 (by omega)
        rw [es, ef]
        have e2 : (wordT (toW p.t) :: signT [40] :: (showE e false ++ [signT [41]])) ++ r = wordT (toW p.t) :: signT [40] :: (showE e false ++ signT [41] :: r) := by simp
        rw [e2]
        exact bare_of w2 (.conv (t := wordT (toW p.t)) (u := signT [40]) rfl (by show toT (toW p.t) ≠ 0; rw [w1]; omega) (by decide) (by omega) this (by decide))
      exact ⟨fun d r _ hd => key d r (by omega), full_of_atom (by rw [es, es]) (fun d r _ hd => (key d r hd).1)⟩
    · obtain ⟨hp, _⟩ := may5 hk hm
      have es : ∀ i, showE (.one p e) i = brk i (opTok p.n :: showE e true) := fun i => by
        show (if p.kind = 3 then _ else _) = _
        rw [if_neg (by omega), if_neg (by omega)]
      have ef : flat (.one p e) = flat e ++ [opP p.n] := by show flat e ++ [p] = _; rw [← hp]
      have full : Full (.one p e) := fun d r hr hd => by
        have hd' : d + 2 * (dep e + 1) ≤ 191 := hd
        rw [es, ef]
        have := (iA (d + 1) r (stops_soft hr) (by omega)).1
        exact lift_row (.sign (t := opTok p.n) (un_tok hn) (by omega) this) 7 0 rfl (stops_quiet hr)
      refine ⟨fun d r hr hd => ?_, full⟩
      have hf := full (d + 1) (signT [41] :: r) (stops_close r).1 (by omega)
      have e1 := es true
      have e0 := es false
      have e2 : showE (.one p e) true ++ r = signT [40] :: (showE (.one p e) false ++ signT [41] :: r) := by rw [e1, e0]; simp [brk]
      rw [e2]
      exact bare_of (by decide) (.par (t := signT [40]) (by decide) (by omega) hf (by decide))
  | .two p a b, h => by
    obtain ⟨ht, hm, hwa, hwb⟩ := h
    obtain ⟨aA, _⟩ := shown hwa
    obtain ⟨bA, _⟩ := shown hwb
    obtain ⟨hk, hn⟩ := takes2 ht
    obtain ⟨hp, h1, h16⟩ := may5 hk hm
    obtain ⟨o1, o2, o3, o4, o5⟩ := op_row (n := p.n) ⟨h1, by omega⟩
    have ef : flat (.two p a b) = flat a ++ (flat b ++ opP p.n :: []) := by show flat a ++ (flat b ++ [p]) = _; rw [← hp]
    have full : Full (.two p a b) := fun d r hr hd => by
      have hd' : d + 2 * (max (dep b) (dep a) + 1) ≤ 191 := hd
      have e2 : showE (.two p a b) false ++ r = showE a true ++ opTok p.n :: (showE b true ++ r) := by
        show (showE a true ++ opTok p.n :: showE b true) ++ r = _
        simp
      rw [e2, ef]
      have ra := (aA d (opTok p.n :: (showE b true ++ r)) (fun u q e => by injection e with e1 _; rw [← e1]; exact ⟨o4, o5⟩) (by omega)).1
      have rb := (bA d r (stops_soft hr) (by omega)).1
      have la := lift_row ra (7 - (rowOf p.n + 1)) (rowOf p.n + 1) (by omega) (fun t q e m hm => by injection e with e1 _; rw [← e1]; exact o3 m (by omega))
      have lb := lift_row rb (7 - (rowOf p.n + 1)) (rowOf p.n + 1) (by omega) (quiet_more (stops_quiet hr) (by omega))
      have lo := Reads.more (n := rowOf p.n) o2 lb (.stop (d := d) (fun t q e => (hr t q e).1 _))
      exact lift_from (.row o1 la lo) (by omega) (rowOf p.n) 0 (by omega) (stops_quiet hr)
    refine ⟨fun d r hr hd => ?_, full⟩
    have hf := full (d + 1) (signT [41] :: r) (stops_close r).1 (by omega)
    have e2 : showE (.two p a b) true ++ r = signT [40] :: (showE (.two p a b) false ++ signT [41] :: r) := by
      show (brk true (showE a true ++ opTok p.n :: showE b true)) ++ r = signT [40] :: ((brk false (showE a true ++ opTok p.n :: showE b true)) ++ signT [41] :: r)
      simp [brk]
    rw [e2]
    exact bare_of (by decide) (.par (t := signT [40]) (by decide) (by omega) hf (by decide))
end Go.Proofs.YtldjiieckddhkaaGreatDoor
namespace Go.Proofs.YtldjiieckddhkaaGreatDoor
def build : List Pt → List Ex → Option (List Ex)
  | [], st => some st
  | p :: x, st =>
    if takes p = 0 then build x (.leaf p :: st)
    else if takes p = 1 then (match st with
      | a :: r => build x (.one p a :: r)
      | [] => none)
    else (match st with
      | b :: a :: r => build x (.two p a b :: r)
      | _ => none)
theorem build_depths : ∀ (x : List Pt) (st : List Ex), depths x (st.map dep) = (build x st).map (·.map dep)
  | [], st => rfl
  | p :: x, st => by
    unfold depths build
    split
    · exact build_depths x (.leaf p :: st)
    · split
      · cases st with
        | nil => rfl
        | cons a r => exact build_depths x (.one p a :: r)
      · match st with
        | [] => rfl
        | [a] => rfl
        | b :: a :: r => exact build_depths x (.two p a b :: r)
def flats : List Ex → List Pt
  | [] => []
  | e :: r => flats r ++ flat e
theorem takes_le (p : Pt) : takes p ≤ 2 := by
  unfold takes
  repeat' split
  all_goals omega
theorem build_flat : ∀ {x : List Pt} {st st' : List Ex}, build x st = some st' → flats st' = flats st ++ x
  | [], st, st', h => by
    have h' : some st = some st' := h
    injection h' with h
    rw [h, List.append_nil]
  | p :: x, st, st', h => by
    unfold build at h
    split at h
    · rw [build_flat h]
      show (flats st ++ [p]) ++ x = _
      simp
    · split at h
      · split at h
        · next a r =>
          rw [build_flat h]
          show (flats r ++ (flat a ++ [p])) ++ x = (flats r ++ flat a) ++ p :: x
          simp
        · cases h
      · split at h
        · next b a r =>
          rw [build_flat h]
          show (flats r ++ (flat a ++ (flat b ++ [p]))) ++ x = ((flats r ++ flat a) ++ flat b) ++ p :: x
          simp
        · cases h
theorem build_well : ∀ {x : List Pt} {st st' : List Ex}, build x st = some st' → (∀ p ∈ x, mayP p = true) → (∀ e ∈ st, well e) → ∀ e ∈ st', well e
  | [], st, st', h, _, hw => by
    have h' : some st = some st' := h
    injection h' with h
    rw [← h]; exact hw
  | p :: x, st, st', h, hm, hw => by
    have hp := hm p List.mem_cons_self
    have hx : ∀ q ∈ x, mayP q = true := fun q hq => hm q (List.mem_cons_of_mem p hq)
    unfold build at h
    split at h
    · next h0 =>
      exact build_well h hx (fun e he => by
        rcases List.mem_cons.1 he with rfl | he
        · exact ⟨h0, hp⟩
        · exact hw e he)
    · next h0 =>
      split at h
      · next h1 =>
        split at h
        · next a r =>
          exact build_well h hx (fun e he => by
            rcases List.mem_cons.1 he with rfl | he
            · exact ⟨h1, hp, hw a List.mem_cons_self⟩
            · exact hw e (List.mem_cons_of_mem a he))
        · cases h
      · next h1 =>
        split at h
        · next b a r =>
          have h2 : takes p = 2 := by have := takes_le p; omega
          exact build_well h hx (fun e he => by
            rcases List.mem_cons.1 he with rfl | he
            · exact ⟨h2, hp, hw a (List.mem_cons_of_mem b List.mem_cons_self), hw b List.mem_cons_self⟩
            · exact hw e (List.mem_cons_of_mem b (List.mem_cons_of_mem a he)))
        · cases h
def checkP (x : List Pt) : Int := if 500 < x.length then 2 else if x.all mayP = false then 60 else if depth x = 0 ∨ 24 < depth x then 60 else 0
theorem check_tree {x : List Pt} (h : checkP x = 0) : ∃ e, well e ∧ flat e = x ∧ dep e = depth x ∧ dep e ≤ 24 ∧ x.length ≤ 500 := by
  unfold checkP at h
  split at h
  · cases h
  · next hl =>
    split at h
    · cases h
    · next ha =>
      split at h
      · cases h
      · next hd =>
        have hd' : depth x ≠ 0 ∧ depth x ≤ 24 := by omega
        have hb := build_depths x []
        have hm : ∀ p ∈ x, mayP p = true := fun p hp => by
          have := (List.all_eq_true.1 (by simpa using ha)) p hp
          exact this
        have he : depth x = match depths x [] with
          | some [d] => d
          | _ => 0 := rfl
        have hb' : depths x [] = (build x []).map (·.map dep) := hb
        rw [hb'] at he
        cases hbu : build x [] with
        | none => rw [hbu] at he; exact absurd he hd'.1
        | some st =>
          rw [hbu] at he
          match st, hbu, he with
          | [], hbu, he => exact absurd he hd'.1
          | [e], hbu, he =>
            have hf := build_flat hbu
            have hw := build_well hbu hm (fun e he => by cases he) e List.mem_cons_self
            have hf' : flat e = x := by simpa [flats] using hf
            have hde : depth x = dep e := he
            exact ⟨e, hw, hf', hde.symm, by omega, by omega⟩
          | a :: b :: r, hbu, he => exact absurd he hd'.1
def ltB : Bs → Bs → Bool
  | [], [] => false
  | [], _ :: _ => true
  | _ :: _, [] => false
  | a :: x, b :: y => if a < b then true else if b < a then false else ltB x y
theorem ltB_irr : ∀ a : Bs, ltB a a = false
  | [] => rfl
  | a :: x => by
    unfold ltB
    rw [if_neg (UInt8.lt_irrefl a), if_neg (UInt8.lt_irrefl a)]
    exact ltB_irr x
theorem ltB_tri : ∀ a b : Bs, ltB a b = false → ltB b a = false → a = b
  | [], [], _, _ => rfl
  | [], _ :: _, h, _ => by cases h
  | _ :: _, [], _, h => by cases h
  | a :: x, b :: y, h, h' => by
    unfold ltB at h h'
    split at h
    · cases h
    · next h1 =>
      split at h
      · next h2 => rw [if_pos h2] at h'; cases h'
      · next h2 =>
        rw [if_neg h2, if_neg h1] at h'
        have e : a = b := UInt8.le_antisymm (UInt8.not_lt.1 h2) (UInt8.not_lt.1 h1)
        rw [e, ltB_tri x y h h']
theorem ltB_trans : ∀ {a b c : Bs}, ltB a b = true → ltB b c = true → ltB a c = true
  | [], [], c, h, _ => by cases h
  | [], _ :: _, [], _, h => by cases h
  | [], _ :: _, _ :: _, _, _ => rfl
  | _ :: _, [], c, h, _ => by cases h
  | _ :: _, _ :: _, [], _, h => by cases h
  | a :: x, b :: y, c :: z, h, h' => by
    unfold ltB at h h' ⊢
    split at h
    · next h1 =>
      split at h'
      · next h2 => rw [if_pos (UInt8.lt_trans h1 h2)]
      · next h2 =>
        split at h'
        · cases h'
        · next h3 =>
          have e : b = c := UInt8.le_antisymm (UInt8.not_lt.1 h3) (UInt8.not_lt.1 h2)
          rw [← e, if_pos h1]
    · next h1 =>
      split at h
      · cases h
      · next h4 =>
        have e : a = b := UInt8.le_antisymm (UInt8.not_lt.1 h4) (UInt8.not_lt.1 h1)
        rw [e]
        split at h'
        · next h2 => rw [if_pos h2]
        · next h2 =>
          split at h'
          · cases h'
          · next h3 => rw [if_neg h2, if_neg h3]; exact ltB_trans h h'
def insN : List Bs → Bs → List Bs
  | [], s => [s]
  | a :: r, s => if ltB a s then a :: insN r s else if a = s then a :: r else s :: a :: r
def namesP (x : List Pt) : List Bs := x.foldl (fun out p => if p.s = [] then out else insN out p.s) []
theorem mem_ins : ∀ (l : List Bs) (s y : Bs), y ∈ insN l s ↔ y ∈ l ∨ y = s
  | [], s, y => by simp [insN]
  | a :: r, s, y => by
    unfold insN
    split
    · rw [List.mem_cons, List.mem_cons, mem_ins r s y, or_assoc]
    · split
      · next e => subst e; constructor
                  · exact .inl
                  · rintro (h | rfl)
                    · exact h
                    · exact List.mem_cons_self
      · rw [List.mem_cons]
        exact or_comm
theorem ins_sorted : ∀ (l : List Bs) (s : Bs), l.Pairwise (fun a b => ltB a b = true) → (insN l s).Pairwise (fun a b => ltB a b = true)
  | [], s, _ => List.pairwise_singleton _ _
  | a :: r, s, h => by
    obtain ⟨h1, h2⟩ := List.pairwise_cons.1 h
    unfold insN
    split
    · next hl =>
      refine List.pairwise_cons.2 ⟨fun b hb => ?_, ins_sorted r s h2⟩
      rcases (mem_ins r s b).1 hb with hb | rfl
      · exact h1 b hb
      · exact hl
    · next hl =>
      split
      · exact h
      · next hne =>
        have hs : ltB s a = true := by
          cases hx : ltB s a with
          | true => rfl
          | false => exact absurd (ltB_tri a s (by simpa using hl) hx) hne
        refine List.pairwise_cons.2 ⟨fun b hb => ?_, h⟩
        rcases List.mem_cons.1 hb with rfl | hb
        · exact hs
        · exact ltB_trans hs (h1 b hb)
theorem names_fold : ∀ (x : List Pt) (out : List Bs), out.Pairwise (fun a b => ltB a b = true) → (x.foldl (fun out p => if p.s = [] then out else insN out p.s) out).Pairwise (fun a b => ltB a b = true) ∧ ∀ y, y ∈ x.foldl (fun out p => if p.s = [] then out else insN out p.s) out ↔ y ∈ out ∨ ∃ p ∈ x, p.s = y ∧ p.s ≠ []
  | [], out, h => ⟨h, fun y => by simp⟩
  | p :: x, out, h => by
    rw [List.foldl_cons]
    by_cases hp : p.s = []
    · rw [if_pos hp]
      obtain ⟨a, b⟩ := names_fold x out h
      refine ⟨a, fun y => ?_⟩
      rw [b y]
      constructor
      · rintro (h | ⟨q, hq, h⟩)
        · exact .inl h
        · exact .inr ⟨q, List.mem_cons_of_mem p hq, h⟩
      · rintro (h | ⟨q, hq, h⟩)
        · exact .inl h
        · rcases List.mem_cons.1 hq with rfl | hq
          · exact absurd hp h.2
          · exact .inr ⟨q, hq, h⟩
    · rw [if_neg hp]
      obtain ⟨a, b⟩ := names_fold x (insN out p.s) (ins_sorted out p.s h)
      refine ⟨a, fun y => ?_⟩
      rw [b y, mem_ins]
      constructor
      · rintro ((h | rfl) | ⟨q, hq, h⟩)
        · exact .inl h
        · exact .inr ⟨p, List.mem_cons_self, rfl, hp⟩
        · exact .inr ⟨q, List.mem_cons_of_mem p hq, h⟩
      · rintro (h | ⟨q, hq, h⟩)
        · exact .inl (.inl h)
        · rcases List.mem_cons.1 hq with rfl | hq
          · exact .inl (.inr h.1.symm)
          · exact .inr ⟨q, hq, h⟩
theorem names_sorted (x : List Pt) : (namesP x).Pairwise (fun a b => ltB a b = true) := (names_fold x [] List.Pairwise.nil).1
theorem mem_names (x : List Pt) (y : Bs) : y ∈ namesP x ↔ ∃ p ∈ x, p.s = y ∧ p.s ≠ [] := by
  unfold namesP
  rw [(names_fold x [] List.Pairwise.nil).2 y]
  simp
end Go.Proofs.YtldjiieckddhkaaGreatDoor
