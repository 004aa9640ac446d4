/- What Tokens does, as a stack of pieces; that a right list of parts comes to the one piece of its tree. | A row of pieces: its values, its cut, and a piece put behind it. | A piece that Tokens makes. -/
import Derived.Test.YtkicbmjjbnblfaaGreatDoorSiA
import Derived.Deep.CutRange
namespace Go.Proofs.YtkicbmjjbnblfaaGreatDoor
abbrev Pc := List Tv × Bool
def stepS (x : Pv) (vs : List Pc) : Option (List Pc) :=
  if takes (ptV x) ≤ vs.length then some (vs.take (vs.length - takes (ptV x)) ++ [(showL x (vs.drop (vs.length - takes (ptV x))), decide (x.k = 5))]) else none
def runS : List Pv → List Pc → Option (List Pc)
  | [], vs => some vs
  | x :: r, vs => (stepS x vs).bind (runS r)
def isOpE : Ex → Bool
  | .leaf p => decide (p.kind = 5)
  | .one p _ => decide (p.kind = 5)
  | .two p _ _ => decide (p.kind = 5)
/-- the piece of a tree -/
def PcOf (e : Ex) (c : Pc) : Prop := c.1.map tkV = showE e false ∧ c.2 = isOpE e
theorem runS_cons {x : Pv} {r : List Pv} {vs vs' : List Pc} (h : stepS x vs = some vs') : runS (x :: r) vs = runS r vs' := by
  show (stepS x vs).bind (runS r) = _
  rw [h]; rfl
theorem stepS_at {x : Pv} (S vs : List Pc) (h : vs.length = takes (ptV x)) : stepS x (S ++ vs) = some (S ++ [(showL x vs, decide (x.k = 5))]) := by
  unfold stepS
  rw [if_pos (by rw [List.length_append]; omega)]
  have e : (S ++ vs).length - takes (ptV x) = S.length := by rw [List.length_append]; omega
  rw [e, List.take_left, List.drop_left]
theorem map_wd (s : ByteArray) : tkV (wdT s) = wordT s.data.toList := rfl
theorem map_sg (s : ByteArray) : tkV (sgT s) = signT s.data.toList := rfl
theorem map_op (n : Int) : tkV (opTv n) = opTok n := by
  have key : ∀ (c : Prop) [Decidable c] (a b : Tk), (a.n = 0 ∧ a.ty = 0) → (b.n = 0 ∧ b.ty = 0) → ((if c then a else b).n = 0 ∧ (if c then a else b).ty = 0) := fun c _ a b ha hb => by
    by_cases h : c
    · rw [if_pos h]; exact ha
    · rw [if_neg h]; exact hb
  have : (opTok n).n = 0 ∧ (opTok n).ty = 0 := by
    unfold opTok
    repeat (refine key _ _ _ ⟨rfl, rfl⟩ ?_)
    exact ⟨rfl, rfl⟩
  show (⟨(opTok n).kind, (opTok n).s.toArray.toList, 0, 0⟩ : Tk) = opTok n
  rw [List.toList_toArray]
  cases h : opTok n
  rw [h] at this
  simp at this
  simp [this.1, this.2]
/-- what an operation works on is shown so -/
theorem inner_map {e : Ex} {c : Pc} (hw : well e) (h : PcOf e c) : (innerL c.2 c.1).map tkV = showE e true := by
  obtain ⟨h1, h2⟩ := h
  unfold innerL
  rw [h2]
  have hb : ∀ l : List Tv, ([lpT] ++ (l ++ [rpT])).map tkV = signT [40] :: (l.map tkV ++ [signT [41]]) := fun l => by
    rw [List.map_append, List.map_append]; rfl
  cases e with
  | leaf p =>
    have hk : decide (p.kind = 5) = false := by
      apply decide_eq_false
      intro h5
      rcases may_leaf hw.1 hw.2 with ⟨a, b, e, _⟩ | ⟨a, e, _⟩ | ⟨a, b, e, _⟩ <;> rw [e] at h5 <;> cases h5
    show (if decide (p.kind = 5) = true then _ else _ : List Tv).map tkV = _
    rw [hk, if_neg (by decide), h1]; rfl
  | one p e =>
    show (if decide (p.kind = 5) = true then _ else _ : List Tv).map tkV = _
    by_cases h5 : p.kind = 5
    · rw [decide_eq_true h5, if_pos rfl, hb, h1]
      unfold showE
      rw [if_neg (by omega), if_neg (by omega), if_neg (by omega), if_neg (by omega)]; rfl
    · rw [decide_eq_false h5, if_neg (by decide), h1]
      have := takes1 hw.1
      unfold showE
      rcases this with h | h | ⟨h, _⟩
      · rw [if_pos h, if_pos h]
      · rw [if_neg (by omega), if_pos h, if_neg (by omega), if_pos h]
      · exact absurd h h5
  | two p a b =>
    show (if decide (p.kind = 5) = true then _ else _ : List Tv).map tkV = _
    rw [decide_eq_true (takes2 hw.1).1, if_pos rfl, hb, h1]
    unfold showE
    rfl
theorem leaf_map {x : Pv} (ht : takes (ptV x) = 0) (hm : mayP (ptV x) = true) (vs : List Pc) : (showL x vs).map tkV = showE (.leaf (ptV x)) false := by
  obtain ⟨k, n, t, s, f⟩ := x
  have hk : k = 1 ∨ k = 2 ∨ k = 4 := by
    rcases may_leaf ht hm with ⟨a, b, e, _⟩ | ⟨a, e, _⟩ | ⟨a, b, e, _⟩
    · exact .inl (congrArg Pt.kind e)
    · exact .inr (.inl (congrArg Pt.kind e))
    · exact .inr (.inr (congrArg Pt.kind e))
  rcases hk with rfl | rfl | rfl
  · show [numTok n t].map tkV = (if t = 1 then [wordT (if n = 1 then truB else falB)] else [numT n t])
    unfold numTok
    by_cases h1 : t = 1
    · rw [if_neg (by omega), if_pos h1]
      by_cases h2 : n = 1
      · rw [if_pos h2, if_pos h2]; rfl
      · rw [if_neg h2, if_neg h2]; rfl
    · rw [if_pos h1, if_neg h1]; rfl
  · rfl
  · rfl
theorem run_tree : ∀ (e : Ex), well e → ∀ xs : List Pv, xs.map ptV = flat e → ∃ c, PcOf e c ∧ ∀ S r, runS (xs ++ r) S = runS r (S ++ [c])
  | .leaf p, hw, xs, hx => by
    obtain ⟨x, rfl, hp⟩ : ∃ x, xs = [x] ∧ ptV x = p := by
      match xs, hx with
      | [x], h => exact ⟨x, rfl, by simpa [flat] using h⟩
    subst hp
    refine ⟨(showL x [], decide (x.k = 5)), ⟨leaf_map hw.1 hw.2 [], rfl⟩, fun S r => ?_⟩
    have := stepS_at (x := x) S [] hw.1.symm
    rw [List.append_nil] at this
    exact runS_cons this
  | .one p e, hw, xs, hx => by
    obtain ⟨xs', ys, rfl, h1, h2⟩ := List.map_eq_append_iff.1 hx
    obtain ⟨x, rfl, hp⟩ : ∃ x, ys = [x] ∧ ptV x = p := by
      match ys, h2 with
      | [x], h => exact ⟨x, rfl, by simpa using h⟩
    subst hp
    obtain ⟨c, hc, hr⟩ := run_tree e hw.2.2 xs' h1
    refine ⟨(showL x [c], decide (x.k = 5)), ⟨?_, rfl⟩, fun S r => ?_⟩
    · have ht := takes1 hw.1
      obtain ⟨k, n, t, s, f⟩ := x
      rcases ht with h | h | ⟨h, h'⟩
      · obtain rfl : k = 3 := h
        show ([wdT s, sgT ⟨#[91]⟩] ++ (c.1 ++ [sgT ⟨#[93]⟩])).map tkV = wordT s.data.toList :: signT [91] :: (showE e false ++ [signT [93]])
        rw [List.map_append, List.map_append, hc.1]; rfl
      · obtain rfl : k = 6 := h
        show ([wdT ⟨(toW t).toArray⟩, sgT ⟨#[40]⟩] ++ (c.1 ++ [sgT ⟨#[41]⟩])).map tkV = wordT (toW t) :: signT [40] :: (showE e false ++ [signT [41]])
        rw [List.map_append, List.map_append, hc.1]; rfl
      · obtain rfl : k = 5 := h
        show ([opTv n] ++ innerL c.2 c.1).map tkV = opTok n :: showE e true
        rw [List.map_append, inner_map hw.2.2 hc]
        show [tkV (opTv n)] ++ _ = _
        rw [map_op]; rfl
    · rw [List.append_assoc, hr]
      exact runS_cons (stepS_at S [c] hw.1.symm)
  | .two p a b, hw, xs, hx => by
    obtain ⟨xs', ys, rfl, h1, h2⟩ := List.map_eq_append_iff.1 hx
    obtain ⟨ys', zs, rfl, h3, h4⟩ := List.map_eq_append_iff.1 h2
    obtain ⟨x, rfl, hp⟩ : ∃ x, zs = [x] ∧ ptV x = p := by
      match zs, h4 with
      | [x], h => exact ⟨x, rfl, by simpa using h⟩
    subst hp
    obtain ⟨c, hc, hr⟩ := run_tree a hw.2.2.1 xs' h1
    obtain ⟨c', hc', hr'⟩ := run_tree b hw.2.2.2 ys' h3
    refine ⟨(showL x [c, c'], decide (x.k = 5)), ⟨?_, rfl⟩, fun S r => ?_⟩
    · obtain ⟨h, _⟩ := takes2 hw.1
      obtain ⟨k, n, t, s, f⟩ := x
      obtain rfl : k = 5 := h
      show (innerL c.2 c.1 ++ ([opTv n] ++ innerL c'.2 c'.1)).map tkV = showE a true ++ opTok n :: showE b true
      rw [List.map_append, List.map_append, inner_map hw.2.2.1 hc, inner_map hw.2.2.2 hc']
      show _ ++ ([tkV (opTv n)] ++ _) = _
      rw [map_op]; rfl
    · rw [List.append_assoc, List.append_assoc, hr, hr', List.append_assoc]
      exact runS_cons (stepS_at S [c, c'] hw.1.symm)
theorem run_check {xs : List Pv} (h : checkP (xs.map ptV) = 0) : ∃ e c, well e ∧ flat e = xs.map ptV ∧ dep e ≤ 24 ∧ PcOf e c ∧ runS xs [] = some [c] := by
  obtain ⟨e, hw, hf, _, hd, _⟩ := check_tree h
  obtain ⟨c, hc, hr⟩ := run_tree e hw xs hf.symm
  refine ⟨e, c, hw, hf, hd, hc, ?_⟩
  have := hr [] []
  rw [List.append_nil] at this
  exact this
end Go.Proofs.YtkicbmjjbnblfaaGreatDoor
namespace Go.Proofs.YtkicbmjjbnblfaaGreatDoor
open Go.RowKit Go.Lib
abbrev Pq := Value × Pc
def pqC (q : Pq) : List Value := [q.1, .bool q.2.2]
def pqsC : List Pq → List Value
  | [] => []
  | q :: l => pqC q ++ pqsC l
theorem pqsC_append (a b : List Pq) : pqsC (a ++ b) = pqsC a ++ pqsC b := by
  induction a with
  | nil => rfl
  | cons x a ih => rw [List.cons_append, pqsC, pqsC, ih, List.append_assoc]
theorem pqsC_length (l : List Pq) : (pqsC l).length = l.length * 2 := by
  induction l with
  | nil => rfl
  | cons x l ih => rw [pqsC, List.length_append, ih, List.length_cons]; show 2 + _ = _; omega
theorem pqsC_get (l : List Pq) : ∀ (i j : Nat) (h : i < l.length), j < 2 → (pqsC l)[i * 2 + j]? = (pqC l[i])[j]? := by
  induction l with
  | nil => intro i j h; exact absurd h (Nat.not_lt_zero _)
  | cons x l ih =>
    intro i j h hj
    match i with
    | 0 => rw [pqsC, List.getElem?_append_left (by show 0 * 2 + j < 2; omega), Nat.zero_mul, Nat.zero_add]; rfl
    | i + 1 =>
      rw [pqsC, List.getElem?_append_right (by show 2 ≤ _; omega)]
      show (pqsC l)[(i + 1) * 2 + j - 2]? = (pqC (l[i]'(by simpa using h)))[j]?
      rw [show (i + 1) * 2 + j - 2 = i * 2 + j from by omega]
      exact ih i j (by simpa using h) hj
theorem pqsC_take (l : List Pq) : ∀ f, (pqsC l).take (f * 2) = pqsC (l.take f) := by
  induction l with
  | nil => intro f; simp [pqsC]
  | cons x l ih =>
    intro f
    match f with
    | 0 => simp [pqsC]
    | f + 1 =>
      rw [List.take_succ_cons, pqsC, pqsC, ← ih f, show (f + 1) * 2 = f * 2 + 1 + 1 from by omega]
      rfl
/-- a slice that reads as l, its block another than r -/
def LstX (w : World) (r : Option Nat) (v : Value) (l : List Tv) : Prop :=
  ∃ (a : Option Addr) (b off cap : Nat), v = .slice a l.length cap ∧ (0 < l.length → b < w.heap.size ∧ a = some ⟨b, off, none⟩ ∧ some b ≠ r) ∧ TvAt w b off l
theorem LstX.lst {w : World} {r : Option Nat} {v : Value} {l : List Tv} (h : LstX w r v l) : Lst w v l := by
  obtain ⟨a, b, off, cap, h1, h2, h3⟩ := h
  exact ⟨a, b, off, cap, h1, fun q => ⟨(h2 q).1, (h2 q).2.1⟩, h3⟩
theorem LstX.grown {w w' : World} {r r' : Option Nat} {v : Value} {l : List Tv} (h : LstX w r v l) (hg : w.grownBy w' r) (hr : r' = r ∨ ∃ k, w.heap.size ≤ k ∧ r' = some k) : LstX w' r' v l := by
  obtain ⟨a, b, off, cap, h1, h2, h3⟩ := h
  refine ⟨a, b, off, cap, h1, fun q => ⟨Nat.lt_of_lt_of_le (h2 q).1 hg.size, (h2 q).2.1, ?_⟩, fun i x hx => ?_⟩
  · rcases hr with rfl | ⟨k, hk, rfl⟩
    · exact (h2 q).2.2
    · intro e
      injection e with e
      have := (h2 q).1
      omega
  · have q := h2 (by have := (List.getElem?_eq_some_iff.1 hx).1; omega)
    have hc : ∀ j, w'.cell? ⟨b, j, none⟩ = w.cell? ⟨b, j, none⟩ := fun j => World.cell?_of_block (w := w) (w' := w') (hg.block b q.1 q.2.2)
    obtain ⟨c0, c1, c2, c3, c4⟩ := h3 i x hx
    exact ⟨(hc _).trans c0, (hc _).trans c1, (hc _).trans c2, (hc _).trans c3, (hc _).trans c4⟩
theorem LstX.below {w w' : World} {r : Option Nat} {v : Value} {l : List Tv} (h : LstX w r v l) (hb : Below w.heap.size w w') : LstX w' r v l := by
  obtain ⟨a, b, off, cap, h1, h2, h3⟩ := h
  refine ⟨a, b, off, cap, h1, fun q => ⟨Nat.lt_of_lt_of_le (h2 q).1 hb.size, (h2 q).2⟩, fun i x hx => ?_⟩
  have q := h2 (by have := (List.getElem?_eq_some_iff.1 hx).1; omega)
  obtain ⟨c0, c1, c2, c3, c4⟩ := h3 i x hx
  exact ⟨(hb.cell (p := ⟨b, _, none⟩) q.1).trans c0, (hb.cell (p := ⟨b, _, none⟩) q.1).trans c1, (hb.cell (p := ⟨b, _, none⟩) q.1).trans c2, (hb.cell (p := ⟨b, _, none⟩) q.1).trans c3, (hb.cell (p := ⟨b, _, none⟩) q.1).trans c4⟩
theorem LstX.of_owns {w : World} {base : Nat} {v : Value} {l : List Tv} {r : Option Nat} (h : w.ownsRow base 54 5 v l.length (tvsC l)) (hr : ∀ k, r = some k → k < base) : LstX w r v l := by
  have hL := Lst.of_owns h
  rcases h.2 with ⟨hv, h0⟩ | ⟨g, cap, cur, hv, hb, hg, hn, hm, hc, ht⟩
  · obtain ⟨a, b, off, cap, h1, h2, h3⟩ := hL
    exact ⟨a, b, off, cap, h1, fun q => by omega, h3⟩
  · obtain ⟨a, b, off, cap', h1, h2, h3⟩ := hL
    refine ⟨a, b, off, cap', h1, fun q => ⟨(h2 q).1, (h2 q).2, fun e => ?_⟩, h3⟩
    rw [hv] at h1
    have ha := (h2 q).2
    injection h1 with e1 _ _
    rw [ha] at e1
    injection e1 with e1
    injection e1 with e1 _ _
    have := hr b e.symm
    omega
/-- a row of pieces of one's own, whose tokens lie in other blocks -/
def PcRow (w : World) (B : Nat) (pv : Value) (ps : List Pq) : Prop := w.ownsRow B 44 2 pv ps.length (pqsC ps) ∧ ∀ q ∈ ps, LstX w pv.ownBlock q.1 q.2.1
theorem PcRow.below {w w' : World} {B : Nat} {pv : Value} {ps : List Pq} (h : PcRow w B pv ps) (hb : Below w.heap.size w w') : PcRow w' B pv ps := ⟨own_on h.1 hb, fun q hq => (h.2 q hq).below hb⟩
theorem PcRow.vsAt {w : World} {B g cap : Nat} {ps : List Pq} (h : PcRow w B (.slice (some ⟨g, 0, none⟩) ps.length cap) ps) (f : Nat) (hf : f ≤ ps.length) : VsAt w (.slice (some ⟨g, f * 2, none⟩) (ps.length - f) (cap - f)) ((ps.drop f).map (·.2)) := by
  obtain ⟨a', cap', hv, hle⟩ := own_form3 h.1
  injection hv with e1 _ e3
  subst e3
  have hgl : g < w.heap.size := by
    rcases h.1.2 with ⟨hv, _⟩ | ⟨g', cap', cur, hv, _, hg, _⟩
    · cases hv
    · injection hv with e1 _ _
      injection e1 with e1
      injection e1 with e1 _ _
      subst e1
      exact (Array.getElem?_eq_some_iff.1 hg).1
  refine ⟨g, f * 2, cap - f, by rw [List.length_map, List.length_drop], by rw [List.length_map, List.length_drop]; omega, hgl, fun i v hv => ?_⟩
  rw [List.getElem?_map, List.getElem?_drop] at hv
  obtain ⟨q, hq, rfl⟩ := Option.map_eq_some_iff.1 hv
  obtain ⟨hi, he⟩ := List.getElem?_eq_some_iff.1 hq
  have key : ∀ j, j < 2 → w.cell? ⟨g, (f + i) * 2 + j, none⟩ = (pqC q)[j]? := fun j hj => by
    rw [h.1.cellAt ((f + i) * 2 + j) (by omega), pqsC_get ps (f + i) j hi hj, he]
  refine ⟨q.1, ?_, ?_, (h.2 q (List.mem_of_getElem? hq)).lst⟩
  · rw [show f * 2 + i * 2 = (f + i) * 2 + 0 from by omega]; exact key 0 (by omega)
  · rw [show f * 2 + i * 2 + 1 = (f + i) * 2 + 1 from by omega]; exact key 1 (by omega)
theorem PcRow.cut {w : World} {B g cap : Nat} {ps : List Pq} (h : PcRow w B (.slice (some ⟨g, 0, none⟩) ps.length cap) ps) (f : Nat) (hf : f ≤ ps.length) : w.ownsRow B 44 2 (.slice (some ⟨g, 0, none⟩) f cap) f (pqsC (ps.take f)) := by
  refine ⟨by rw [pqsC_length, List.length_take]; congr 1; omega, ?_⟩
  rcases h.1.2 with ⟨hv, _⟩ | ⟨g', cap', cur, hv, hb, hg, hn, hm, hc, ht⟩
  · cases hv
  · injection hv with e1 _ e3
    subst e3
    injection e1 with e1
    injection e1 with e1 _ _
    subst e1
    refine .inr ⟨g, cap, cur, rfl, hb, hg, by omega, hm, hc, ?_⟩
    rw [← pqsC_take, ← ht, List.take_take, Nat.min_eq_left (by omega)]
theorem PcRow.push {w w' : World} {B f cap' g' : Nat} {pv : Value} {ps : List Pq} {u : Value} {l : List Tv} {op : Bool} (h : PcRow w B pv ps) (hf : f ≤ ps.length) (hu : LstX w pv.ownBlock u l) (hg : w.grownBy w' pv.ownBlock) (hr : pv.ownBlock = some g' ∨ g' = w.heap.size)
    (ho : w'.ownsRow B 44 2 (.slice (some ⟨g', 0, none⟩) (f + 1) cap') (f + 1) (pqsC (ps.take f) ++ [u, .bool op])) : PcRow w' B (.slice (some ⟨g', 0, none⟩) (f + 1) cap') (ps.take f ++ [(u, (l, op))]) := by
  have hlen : (ps.take f ++ [(u, (l, op))]).length = f + 1 := by rw [List.length_append, List.length_take]; simp; omega
  have hr' : (Value.slice (some ⟨g', 0, none⟩) (f + 1) cap').ownBlock = pv.ownBlock ∨ ∃ k, w.heap.size ≤ k ∧ (Value.slice (some ⟨g', 0, none⟩) (f + 1) cap').ownBlock = some k := by
    rcases hr with e | e
    · exact .inl e.symm
    · exact .inr ⟨g', by omega, rfl⟩
  refine ⟨?_, fun q hq => ?_⟩
  · rw [hlen, pqsC_append]; exact ho
  · rcases List.mem_append.1 hq with hq | hq
    · exact (h.2 q (List.mem_of_mem_take hq)).grown hg hr'
    · rw [List.mem_singleton] at hq
      subst hq
      exact hu.grown hg hr'
end Go.Proofs.YtkicbmjjbnblfaaGreatDoor
namespace Go.Proofs.YtkicbmjjbnblfaaGreatDoor
open Go.RowKit Go.Lib
theorem Held.setCell {w W : World} (h : Held w W) {p : Addr} (hp : w.heap.size ≤ p.block) (v : Value) : Held w (W.setCell p v) := Below.setCell h hp v
theorem own_set {w : World} {base e size n : Nat} {v : Value} {xs : List Value} (h : w.ownsRow base e size v n xs) {p : Addr} (hp : p.block < base) (u : Value) : (w.setCell p u).ownsRow base e size v n xs := by
  refine ⟨h.1, ?_⟩
  rcases h.2 with h | ⟨g, cap, cur, r1, r2, r3, r4⟩
  · exact .inl h
  · exact .inr ⟨g, cap, cur, r1, r2, by rw [Below.heap_setCell w p u g (by omega)]; exact r3, r4⟩
/-- a piece has been made: its block, its tokens in a row of their own -/
def Made (w2 : World) (g : Nat) (L : List Tv) (op : Bool) (wx : World) : Prop :=
  ∃ v base, wx.cell? ⟨g, 0, none⟩ = some v ∧ wx.cell? ⟨g, 1, none⟩ = some (.bool op) ∧ wx.ownsRow base 54 5 v L.length (tvsC L) ∧ w2.heap.size ≤ base ∧ w2.heap.size ≤ g ∧ Held w2 wx
theorem Made.first {w2 W w5 : World} {g : Nat} {L : List Tv} {op : Bool} {v : Value} {z0 z1 : Value} (hg : W.heap.size = g) (hW : Held w2 W) (hb : Below (W.alloc (.cells #[z0, z1] 44)).heap.size (W.alloc (.cells #[z0, z1] 44)) w5) (ho : w5.ownsRow (W.alloc (.cells #[z0, z1] 44)).heap.size 54 5 v L.length (tvsC L)) : Made w2 g L op ((w5.setCell ⟨g, 0, none⟩ v).setCell ⟨g, 1, none⟩ (.bool op)) := by
  subst hg
  have hz : W.heap.size < (W.alloc (.cells #[z0, z1] 44)).heap.size := by rw [World.size_alloc]; omega
  have hrow := (hb.block _ hz).trans (heap_alloc_new W (.cells #[z0, z1] 44))
  have h2 := hW.size
  have hset : ((w5.setCell ⟨W.heap.size, 0, none⟩ v).setCell ⟨W.heap.size, 1, none⟩ (.bool op)).heap[W.heap.size]? = some (.cells #[v, .bool op] 44 (0, 0)) := by
    simp [World.setCell, Array.getElem?_modify, hrow]
  refine ⟨v, _, Lib.cell_of_heap hset 0, Lib.cell_of_heap hset 1, own_set (own_set ho hz _) hz _, by omega, h2, ?_⟩
  exact ((((hW.alloc _).call hb).setCell h2 _).setCell h2 _)
theorem Made.last {w2 W w5 : World} {g : Nat} {L : List Tv} {op : Bool} {v : Value} (hg : w5.heap.size = g) (hW : Held w2 W) (hb : Below W.heap.size W w5) (ho : w5.ownsRow W.heap.size 54 5 v L.length (tvsC L)) : Made w2 g L op (w5.alloc (.cells #[v, .bool op] 44)) := by
  subst hg
  have hset := heap_alloc_new w5 (.cells #[v, .bool op] 44)
  refine ⟨v, W.heap.size, Lib.cell_of_heap hset 0, Lib.cell_of_heap hset 1, own_on ho ((Below.refl _ _).alloc (Nat.le_refl _) _), hW.size, Nat.le_trans hW.size hb.size, (hW.call hb).alloc _⟩
end Go.Proofs.YtkicbmjjbnblfaaGreatDoor
