/- The tokens' loop, plain: what is read ahead and what follows. -/
import Derived.Test.YtkicbmjjbnblfaaDoorGapX
import Derived.ScopeJumps
import Derived.WalkMore
namespace Go.Proofs.YtkicbmjjbnblfaaDoor
open Go.RowKit
theorem wp_scope_loop {P : Program} {a : Act} {w : World} {Q : Exit → Act → World → Prop} {c rest : Code} (l : Nat) (J : Act → World → Prop) (μ : Act → World → Nat) (hf : findLabel c l = some (.seq .skip rest))
    (first : (∀ a w, J a w → rest.wp P (Exit.jump l J Q) a w) → c.wp P (Exit.jump l J Q) a w)
    (pass : ∀ a w, J a w → rest.wp P (Exit.jump l (fun a' w' => J a' w' ∧ μ a' w' < μ a w) Q) a w) : (Code.scope c).wp P Q a w :=
  wp_scope_jumps l J μ hf (first fun a w h => Code.wp_mono (fun e a' w' q => by
    cases e with
    | goto l' => exact ⟨q.1, q.2.1⟩
    | _ => exact q) (pass a w h)) (fun a w h => wp_seq (wp_skip (pass a w h)))
def contT (ts : List (Tk × Nat)) : Except (Nat × Int) (List (Tk × Nat)) → Except (Nat × Int) (List (Tk × Nat))
  | .error e => .error e
  | .ok us => .ok (ts ++ us)
def tkC (L : Nat) (x : Tk × Nat) : List Value := [.int .i64 x.1.kind, .string ⟨x.1.s.toArray⟩, .int .i64 x.1.n, .int .i64 x.1.ty, .int .i64 ((L - x.2 : Nat) : Int)]
/-- the cells of a list of tokens -/
def tksC (L : Nat) (ts : List (Tk × Nat)) : List Value := ts.flatMap (tkC L)
theorem tksC_snoc (L : Nat) (ts : List (Tk × Nat)) (x : Tk × Nat) : tksC L (ts ++ [x]) = tksC L ts ++ tkC L x := by
  unfold tksC; rw [List.flatMap_append]; simp
theorem gap_suf {l r : Bs} (h : gapP l = some r) : r <:+ l := by
  match l, h with
  | [], h => injection h with h; subst h; exact List.suffix_refl _
  | c :: q, h =>
    rw [gapP] at h
    split at h
    · injection h with h; subst h; exact List.suffix_cons _ _
    · split at h
      · injection h with h; subst h; exact line_suf _
      · split at h
        · exact suf_cons c ((note_suf h).trans (suf_tail q))
        · split at h
          · exact suf_cons c (brace_suf h)
          · injection h with h; subst h; exact List.suffix_refl _
theorem suf_drop {r q : Bs} (h : r <:+ q) : r = q.drop (q.length - r.length) := by
  obtain ⟨t, rfl⟩ := h
  rw [List.length_append, Nat.add_sub_cancel, List.drop_left]
theorem toksF_skip {f cnt : Nat} {l r : Bs} (h : skip l = skip r) : toksF (f + 1) cnt l = toksF (f + 1) cnt r := by
  rw [toksF, toksF, h]
theorem toksF_bad {f cnt : Nat} {l : Bs} (h : gapP l = none) : toksF (f + 1) cnt l = .error (l.length, 50) := by
  rw [toksF, skip_gap, h]
theorem toksF_gap {f cnt : Nat} {l r : Bs} (h : gapP l = some r) (hr : r.length ≠ l.length) : toksF (f + 1) cnt l = toksF (f + 1) cnt r := by
  apply toksF_skip
  rw [skip_gap, h]
  simp only []
  rw [if_neg hr]
theorem skip_here {l r : Bs} (h : gapP l = some r) (hr : r.length = l.length) : skip l = .ok l := by
  rw [skip_gap, h]
  simp only []
  rw [if_pos hr]
theorem toksF_long {f cnt : Nat} {l : Bs} (hs : skip l = .ok l) (h : 4096 ≤ cnt) : toksF (f + 1) cnt l = .error (l.length, 2) := by
  rw [toksF, hs]
  simp only [if_pos h]
theorem toksF_end {f cnt : Nat} (h : ¬ 4096 ≤ cnt) : toksF (f + 1) cnt [] = .ok [(endT, 0)] := by
  rw [toksF, skip_nil]
  simp only [if_neg h]
theorem toksF_none {f cnt : Nat} {l : Bs} (hs : skip l = .ok l) (h : ¬ 4096 ≤ cnt) (hl : l ≠ []) (ho : oneTok l = none) : toksF (f + 1) cnt l = .error (l.length, 50) := by
  match l, hl with
  | c :: q, _ =>
    rw [toksF, hs]
    simp only [if_neg h, ho, List.length_cons]
theorem toksF_some {f cnt : Nat} {l r : Bs} {t : Tk} (hs : skip l = .ok l) (h : ¬ 4096 ≤ cnt) (ho : oneTok l = some (t, r)) : toksF (f + 1) cnt l = (match toksF f (cnt + 1) r with | .error e => .error e | .ok ts => .ok ((t, l.length) :: ts)) := by
  match l, ho with
  | c :: q, ho =>
    rw [toksF, hs]
    simp only [if_neg h, ho, List.length_cons]
    rfl
theorem cont_nil (e : Except (Nat × Int) (List (Tk × Nat))) : contT [] e = e := by cases e <;> rfl
theorem owns_below {w w' : World} {base e size n : Nat} {v : Value} {xs : List Value} (h : w.ownsRow base e size v n xs) (hb : Below w.heap.size w w') : w'.ownsRow base e size v n xs := by
  refine ⟨h.1, ?_⟩
  rcases h.2 with h1 | ⟨g, cap, cur, h1, h2, h3, h4⟩
  · exact .inl h1
  · exact .inr ⟨g, cap, cur, h1, h2, (hb.block g (Array.getElem?_eq_some_iff.1 h3).1).trans h3, h4⟩
theorem heap_setCell_ne (W : World) (p : Addr) (v : Value) {g : Nat} (h : g ≠ p.block) : (W.setCell p v).heap[g]? = W.heap[g]? := by
  simp only [World.setCell]
  split <;> simp [Array.getElem?_modify, Ne.symm h]
theorem owns_set2 {W : World} {B e size n : Nat} {v : Value} {xs : List Value} (h : W.ownsRow (B + 1) e size v n xs) (x y : Value) : ((W.setCell ⟨B, 0, none⟩ x).setCell ⟨B, 1, none⟩ y).ownsRow B e size v n xs := by
  refine ⟨h.1, ?_⟩
  rcases h.2 with h1 | ⟨g, cap, cur, h1, h2, h3, h4⟩
  · exact .inl h1
  · exact .inr ⟨g, cap, cur, h1, by omega, by
      rw [heap_setCell_ne _ _ _ (by show g ≠ B; omega), heap_setCell_ne _ _ _ (by show g ≠ B; omega)]
      exact h3, h4⟩
theorem cont_cons (ts : List (Tk × Nat)) (x : Tk × Nat) (e : Except (Nat × Int) (List (Tk × Nat))) : contT ts (match e with | .error e => .error e | .ok us => .ok (x :: us)) = contT (ts ++ [x]) e := by
  cases e with
  | error e => rfl
  | ok us => simp [contT]
theorem one_kind {l r : Bs} {t : Tk} (h : oneTok l = some (t, r)) : t.kind ≠ 4 := by
  have hN : ∀ {ty : Int} {l r : Bs} {t : Tk}, typedN ty l = some (t, r) → t.kind = 2 := by
    intro ty l r t h
    unfold typedN at h
    split at h
    all_goals
      split at h
      · cases h
      · split at h
        · injection h with h; injection h with h1 h2; subst h1; rfl
        · cases h
  have hT : ∀ {w l r : Bs} {t : Tk}, typedL w l = some (t, r) → t.kind = 2 := by
    intro w l r t h
    unfold typedL at h
    split at h
    · cases ht : timeL 6 0 0 l with
      | none => rw [ht] at h; cases h
      | some x => rw [ht] at h; injection h with h; injection h with h1 h2; subst h1; rfl
    · split at h
      · exact hN h
      · split at h
        · exact hN h
        · split at h
          · exact hN h
          · cases h
  match l, h with
  | c :: q, h =>
    unfold oneTok at h
    simp only [] at h
    split at h
    · split at h
      · rw [hT h]; decide
      · split at h
        · injection h with h; injection h with h1 h2; subst h1; exact (show (1 : Int) ≠ 4 by decide)
        · cases h
    · split at h
      · cases hb : based (c :: q) with
        | none => rw [hb] at h; cases h
        | some x => rw [hb] at h; injection h with h; injection h with h1 h2; subst h1; exact (show (2 : Int) ≠ 4 by decide)
      · unfold signL at h
        split at h
        · injection h with h; injection h with h1 h2; subst h1; exact (show (3 : Int) ≠ 4 by decide)
        · split at h
          · cases h
          · split at h
            · injection h with h; injection h with h1 h2; subst h1; exact (show (3 : Int) ≠ 4 by decide)
            · cases h
theorem own_form {w : World} {base e size : Nat} {v : Value} {n : Nat} {xs : List Value} (h : w.ownsRow base e size v n xs) : ∃ a cap, v = .slice a n cap := by
  rcases h.2 with ⟨h1, h2⟩ | ⟨g, cap, cur, h1, _⟩
  · exact ⟨none, 0, by rw [h1, h2]⟩
  · exact ⟨_, _, h1⟩
/-- a fault's block -/
abbrev F2 : Obj := .cells #[.int .i64 0, .int .i64 0] 27
theorem rezF {w W : World} (h : Below (w.heap.size + 1) (w.alloc F2) W) :
    (W.cell? ⟨w.heap.size, 0, none⟩ = some (.int .i64 0) ∧ W.cell? ⟨w.heap.size, 1, none⟩ = some (.int .i64 0)) ∧ (W.frozen? ⟨w.heap.size, 0, none⟩ = false ∧ W.frozen? ⟨w.heap.size, 1, none⟩ = false) := by
  refine ⟨⟨?_, ?_⟩, ?_, ?_⟩
  · exact (h.cell (p := ⟨w.heap.size, 0, none⟩) (by simp)).trans (by simp)
  · exact (h.cell (p := ⟨w.heap.size, 1, none⟩) (by simp)).trans (by simp)
  · exact (h.frozen (p := ⟨w.heap.size, 0, none⟩) (by simp)).trans (by simp)
  · exact (h.frozen (p := ⟨w.heap.size, 1, none⟩) (by simp)).trans (by simp)
theorem in41L : (Tryd.prog.info? 44).map (fun i => (i.zero, i.size, i.bytes)) = some (some (.agg #[.int .i64 0, .string ⟨#[]⟩, .int .i64 0, .int .i64 0, .int .i64 0]), 5, 48) := by kernel_rfl
/-- what Tokens answers -/
def TksOut (base : Nat) (l : Bs) (e : Ending) (w' : World) : Prop := match toks l with
  | .error (n, c) => e = .returned (.tuple #[.slice none 0 0, .agg #[.int .i64 ((l.length - n : Nat) : Int), .int .i64 c]])
  | .ok ts => ∃ v, e = .returned (.tuple #[v, .agg #[.int .i64 0, .int .i64 0]]) ∧ w'.ownsRow base 44 5 v ts.length (tksC l.length ts)
end Go.Proofs.YtkicbmjjbnblfaaDoor
