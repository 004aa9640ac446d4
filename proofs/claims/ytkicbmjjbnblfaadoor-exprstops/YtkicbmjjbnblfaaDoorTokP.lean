/- What Tokens does, as a stack of pieces; that a right list of parts comes to the one piece of its tree. -/
import Derived.Test.YtkicbmjjbnblfaaDoorSaW
namespace Go.Proofs.YtkicbmjjbnblfaaDoor
abbrev Pc := List Tv × Bool
def stepS (x : Pv) (vs : List Pc) : Option (List Pc) :=
  if takes (ptV x) ≤ vs.length then some (vs.take (vs.length - takes (ptV x)) ++ [(showL x (vs.drop (vs.length - takes (ptV x))), decide (x.k = 5))]) else none
def runS : List Pv → List Pc → Option (List Pc)
  | [], vs => some vs
  | x :: r, vs => (stepS x vs).bind (runS r)
def isOpE : Ex → Bool
  | .leaf p => decide (p.kind = 5)
  | .one p _ => decide (p.kind = 5)
  | .two p _ _ => decide (p.kind = 5)
/-- the piece of a tree -/
def PcOf (e : Ex) (c : Pc) : Prop := c.1.map tkV = showE e false ∧ c.2 = isOpE e
theorem runS_cons {x : Pv} {r : List Pv} {vs vs' : List Pc} (h : stepS x vs = some vs') : runS (x :: r) vs = runS r vs' := by
  show (stepS x vs).bind (runS r) = _
  rw [h]; rfl
theorem stepS_at {x : Pv} (S vs : List Pc) (h : vs.length = takes (ptV x)) : stepS x (S ++ vs) = some (S ++ [(showL x vs, decide (x.k = 5))]) := by
  unfold stepS
  rw [if_pos (by rw [List.length_append]; omega)]
  have e : (S ++ vs).length - takes (ptV x) = S.length := by rw [List.length_append]; omega
  rw [e, List.take_left, List.drop_left]
theorem map_wd (s : ByteArray) : tkV (wdT s) = wordT s.data.toList := rfl
theorem map_sg (s : ByteArray) : tkV (sgT s) = signT s.data.toList := rfl
theorem map_op (n : Int) : tkV (opTv n) = opTok n := by
  have key : ∀ (c : Prop) [Decidable c] (a b : Tk), (a.n = 0 ∧ a.ty = 0) → (b.n = 0 ∧ b.ty = 0) → ((if c then a else b).n = 0 ∧ (if c then a else b).ty = 0) := fun c _ a b ha hb => by
    by_cases h : c
    · rw [if_pos h]; exact ha
    · rw [if_neg h]; exact hb
  have : (opTok n).n = 0 ∧ (opTok n).ty = 0 := by
    unfold opTok
    repeat (refine key _ _ _ ⟨rfl, rfl⟩ ?_)
    exact ⟨rfl, rfl⟩
  show (⟨(opTok n).kind, (opTok n).s.toArray.toList, 0, 0⟩ : Tk) = opTok n
  rw [List.toList_toArray]
  cases h : opTok n
  rw [h] at this
  simp at this
  simp [this.1, this.2]
/-- what an operation works on is shown so -/
theorem inner_map {e : Ex} {c : Pc} (hw : well e) (h : PcOf e c) : (innerL c.2 c.1).map tkV = showE e true := by
  obtain ⟨h1, h2⟩ := h
  unfold innerL
  rw [h2]
  have hb : ∀ l : List Tv, ([lpT] ++ (l ++ [rpT])).map tkV = signT [40] :: (l.map tkV ++ [signT [41]]) := fun l => by
    rw [List.map_append, List.map_append]; rfl
  cases e with
  | leaf p =>
    have hk : decide (p.kind = 5) = false := by
      apply decide_eq_false
      intro h5
      rcases may_leaf hw.1 hw.2 with ⟨a, b, e, _⟩ | ⟨a, e, _⟩ | ⟨a, b, e, _⟩ <;> rw [e] at h5 <;> cases h5
    show (if decide (p.kind = 5) = true then _ else _ : List Tv).map tkV = _
    rw [hk, if_neg (by decide), h1]; rfl
  | one p e =>
    show (if decide (p.kind = 5) = true then _ else _ : List Tv).map tkV = _
    by_cases h5 : p.kind = 5
    · rw [decide_eq_true h5, if_pos rfl, hb, h1]
      unfold showE
      rw [if_neg (by omega), if_neg (by omega), if_neg (by omega), if_neg (by omega)]; rfl
    · rw [decide_eq_false h5, if_neg (by decide), h1]
      have := takes1 hw.1
      unfold showE
      rcases this with h | h | ⟨h, _⟩
      · rw [if_pos h, if_pos h]
      · rw [if_neg (by omega), if_pos h, if_neg (by omega), if_pos h]
      · exact absurd h h5
  | two p a b =>
    show (if decide (p.kind = 5) = true then _ else _ : List Tv).map tkV = _
    rw [decide_eq_true (takes2 hw.1).1, if_pos rfl, hb, h1]
    unfold showE
    rfl
theorem leaf_map {x : Pv} (ht : takes (ptV x) = 0) (hm : mayP (ptV x) = true) (vs : List Pc) : (showL x vs).map tkV = showE (.leaf (ptV x)) false := by
  obtain ⟨k, n, t, s, f⟩ := x
  have hk : k = 1 ∨ k = 2 ∨ k = 4 := by
    rcases may_leaf ht hm with ⟨a, b, e, _⟩ | ⟨a, e, _⟩ | ⟨a, b, e, _⟩
    · exact .inl (congrArg Pt.kind e)
    · exact .inr (.inl (congrArg Pt.kind e))
    · exact .inr (.inr (congrArg Pt.kind e))
  rcases hk with rfl | rfl | rfl
  · show [numTok n t].map tkV = (if t = 1 then [wordT (if n = 1 then truB else falB)] else [numT n t])
    unfold numTok
    by_cases h1 : t = 1
    · rw [if_neg (by omega), if_pos h1]
      by_cases h2 : n = 1
      · rw [if_pos h2, if_pos h2]; rfl
      · rw [if_neg h2, if_neg h2]; rfl
    · rw [if_pos h1, if_neg h1]; rfl
  · rfl
  · rfl
theorem run_tree : ∀ (e : Ex), well e → ∀ xs : List Pv, xs.map ptV = flat e → ∃ c, PcOf e c ∧ ∀ S r, runS (xs ++ r) S = runS r (S ++ [c])
  | .leaf p, hw, xs, hx => by
    obtain ⟨x, rfl, hp⟩ : ∃ x, xs = [x] ∧ ptV x = p := by
      match xs, hx with
      | [x], h => exact ⟨x, rfl, by simpa [flat] using h⟩
    subst hp
    refine ⟨(showL x [], decide (x.k = 5)), ⟨leaf_map hw.1 hw.2 [], rfl⟩, fun S r => ?_⟩
    have := stepS_at (x := x) S [] hw.1.symm
    rw [List.append_nil] at this
    exact runS_cons this
  | .one p e, hw, xs, hx => by
    obtain ⟨xs', ys, rfl, h1, h2⟩ := List.map_eq_append_iff.1 hx
    obtain ⟨x, rfl, hp⟩ : ∃ x, ys = [x] ∧ ptV x = p := by
      match ys, h2 with
      | [x], h => exact ⟨x, rfl, by simpa using h⟩
    subst hp
    obtain ⟨c, hc, hr⟩ := run_tree e hw.2.2 xs' h1
    refine ⟨(showL x [c], decide (x.k = 5)), ⟨?_, rfl⟩, fun S r => ?_⟩
    · have ht := takes1 hw.1
      obtain ⟨k, n, t, s, f⟩ := x
      rcases ht with h | h | ⟨h, h'⟩
      · obtain rfl : k = 3 := h
        show ([wdT s, sgT ⟨#[91]⟩] ++ (c.1 ++ [sgT ⟨#[93]⟩])).map tkV = wordT s.data.toList :: signT [91] :: (showE e false ++ [signT [93]])
        rw [List.map_append, List.map_append, hc.1]; rfl
      · obtain rfl : k = 6 := h
        show ([wdT ⟨(toW t).toArray⟩, sgT ⟨#[40]⟩] ++ (c.1 ++ [sgT ⟨#[41]⟩])).map tkV = wordT (toW t) :: signT [40] :: (showE e false ++ [signT [41]])
        rw [List.map_append, List.map_append, hc.1]; rfl
      · obtain rfl : k = 5 := h
        show ([opTv n] ++ innerL c.2 c.1).map tkV = opTok n :: showE e true
        rw [List.map_append, inner_map hw.2.2 hc]
        show [tkV (opTv n)] ++ _ = _
        rw [map_op]; rfl
    · rw [List.append_assoc, hr]
      exact runS_cons (stepS_at S [c] hw.1.symm)
  | .two p a b, hw, xs, hx => by
    obtain ⟨xs', ys, rfl, h1, h2⟩ := List.map_eq_append_iff.1 hx
    obtain ⟨ys', zs, rfl, h3, h4⟩ := List.map_eq_append_iff.1 h2
    obtain ⟨x, rfl, hp⟩ : ∃ x, zs = [x] ∧ ptV x = p := by
      match zs, h4 with
      | [x], h => exact ⟨x, rfl, by simpa using h⟩
    subst hp
    obtain ⟨c, hc, hr⟩ := run_tree a hw.2.2.1 xs' h1
    obtain ⟨c', hc', hr'⟩ := run_tree b hw.2.2.2 ys' h3
    refine ⟨(showL x [c, c'], decide (x.k = 5)), ⟨?_, rfl⟩, fun S r => ?_⟩
    · obtain ⟨h, _⟩ := takes2 hw.1
      obtain ⟨k, n, t, s, f⟩ := x
      obtain rfl : k = 5 := h
      show (innerL c.2 c.1 ++ ([opTv n] ++ innerL c'.2 c'.1)).map tkV = showE a true ++ opTok n :: showE b true
      rw [List.map_append, List.map_append, inner_map hw.2.2.1 hc, inner_map hw.2.2.2 hc']
      show _ ++ ([tkV (opTv n)] ++ _) = _
      rw [map_op]; rfl
    · rw [List.append_assoc, List.append_assoc, hr, hr', List.append_assoc]
      exact runS_cons (stepS_at S [c, c'] hw.1.symm)
theorem run_check {xs : List Pv} (h : checkP (xs.map ptV) = 0) : ∃ e c, well e ∧ flat e = xs.map ptV ∧ dep e ≤ 24 ∧ PcOf e c ∧ runS xs [] = some [c] := by
  obtain ⟨e, hw, hf, _, hd, _⟩ := check_tree h
  obtain ⟨c, hc, hr⟩ := run_tree e hw xs hf.symm
  refine ⟨e, c, hw, hf, hd, hc, ?_⟩
  have := hr [] []
  rw [List.append_nil] at this
  exact this
end Go.Proofs.YtkicbmjjbnblfaaDoor
