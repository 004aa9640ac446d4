/- What the functions leave is an end of what they had; the tokens as a relation. -/
import Derived.Test.YtldjiieckddhkaaGreatDoorMg0
namespace Go.Proofs.YtldjiieckddhkaaGreatDoor
theorem suf_cons {r l : Bs} (a : UInt8) (h : r <:+ l) : r <:+ a :: l := h.trans (List.suffix_cons a l)
theorem suf_tail (l : Bs) : l.tail <:+ l := List.tail_suffix l
theorem note_suf : ∀ {l r : Bs}, pastNote l = some r → r <:+ l
  | [], r, h => by cases h
  | a :: t, r, h => by
    unfold pastNote at h
    split at h
    · injection h with h
      subst h; exact suf_cons a (suf_tail t)
    · exact suf_cons a (note_suf h)
theorem brace_suf : ∀ {l r : Bs}, pastBrace l = some r → r <:+ l
  | [], r, h => by cases h
  | a :: t, r, h => by
    unfold pastBrace at h
    split at h
    · injection h with h
      subst h; exact List.suffix_cons a t
    · exact suf_cons a (brace_suf h)
theorem line_suf : ∀ l : Bs, toLine l <:+ l
  | [] => List.suffix_refl _
  | a :: t => by
    unfold toLine
    split
    · exact List.suffix_refl _
    · exact suf_cons a (line_suf t)
theorem skipF_suf : ∀ (n : Nat) {l r : Bs}, skipF n l = .ok r → r <:+ l
  | 0, l, r, h => by
    injection h with h
    subst h; exact List.suffix_refl _
  | n + 1, [], r, h => by
    have h' : Except.ok (ε := Bs) [] = .ok r := h
    injection h' with h
    subst h; exact List.suffix_refl _
  | n + 1, c :: t, r, h => by
    unfold skipF at h
    simp only [] at h
    split at h
    · exact suf_cons c (skipF_suf n h)
    · split at h
      · split at h
        · cases h
        · next r' hr => exact suf_cons c ((skipF_suf n h).trans ((note_suf hr).trans (suf_tail t)))
      · split at h
        · exact suf_cons c ((skipF_suf n h).trans (line_suf t))
        · split at h
          · split at h
            · cases h
            · next r' hr => exact suf_cons c ((skipF_suf n h).trans (brace_suf hr))
          · injection h with h
            subst h; exact List.suffix_refl _
theorem skip_suf {l r : Bs} (h : skip l = .ok r) : r <:+ l := skipF_suf _ h
theorem digs_suf (base most : Nat) : ∀ {p : Bool} {n m : Nat} {l r : Bs}, digs base most p n l = some (m, r) → r <:+ l
  | p, n, m, [], r, h => by
    unfold digs at h
    split at h
    · simp only [Option.some.injEq, Prod.mk.injEq] at h
      rw [← h.2]; exact List.suffix_refl _
    · cases h
  | p, n, m, c :: t, r, h => by
    unfold digs at h
    split at h
    · split at h
      · cases h
      · exact suf_cons c (digs_suf base most h)
    · split at h
      · exact suf_cons c (digs_suf base most h)
      · split at h
        · split at h
          · cases h
          · simp only [Option.some.injEq, Prod.mk.injEq] at h
            rw [← h.2]; exact List.suffix_refl _
        · cases h
theorem map_fst {α β : Type} {g : α → β} {x : Option (α × Bs)} {y : β} {r : Bs} (h : x.map (fun z => (g z.1, z.2)) = some (y, r)) : ∃ a, x = some (a, r) ∧ y = g a := by
  cases x with
  | none => cases h
  | some z =>
    simp only [Option.map_some, Option.some.injEq, Prod.mk.injEq] at h
    exact ⟨z.1, by rw [← h.2], h.1.symm⟩
theorem based_suf {l r : Bs} {n : Int} (h : based l = some (n, r)) : r <:+ l := by
  unfold based at h
  split at h
  · obtain ⟨a, h1, _⟩ := map_fst h; exact (digs_suf _ _ h1).trans (List.drop_suffix _ _)
  · split at h
    · obtain ⟨a, h1, _⟩ := map_fst h; exact (digs_suf _ _ h1).trans (List.drop_suffix _ _)
    · split at h
      · obtain ⟨a, h1, _⟩ := map_fst h; exact (digs_suf _ _ h1).trans (List.drop_suffix _ _)
      · obtain ⟨a, h1, _⟩ := map_fst (g := fun n : Nat => (n : Int)) h; exact digs_suf _ _ h1
theorem run10_suf : ∀ {x m : Nat} {l r : Bs}, run10 x l = some (m, r) → r <:+ l
  | x, m, [], r, h => by
    unfold run10 at h
    simp only [Option.some.injEq, Prod.mk.injEq] at h
    rw [← h.2]; exact List.suffix_refl _
  | x, m, c :: t, r, h => by
    unfold run10 at h
    split at h
    · split at h
      · cases h
      · exact suf_cons c (run10_suf h)
    · simp only [Option.some.injEq, Prod.mk.injEq] at h
      rw [← h.2]; exact List.suffix_refl _
theorem unit_suf {l r : Bs} {u : Nat} (h : unitL l = some (u, r)) : r <:+ l := by
  cases l with
  | nil => cases h
  | cons c t =>
    unfold unitL at h
    simp only [] at h
    repeat' split at h
    all_goals first
      | (cases h; done)
      | (simp only [Option.some.injEq, Prod.mk.injEq] at h; rw [← h.2]; exact List.suffix_cons c t)
      | (simp only [Option.some.injEq, Prod.mk.injEq] at h; rw [← h.2]; exact suf_cons c (suf_tail t))
theorem time_suf : ∀ {f lo n m : Nat} {l r : Bs}, timeL f lo n l = some (m, r) → r <:+ l
  | 0, lo, n, m, l, r, h => by cases h
  | f + 1, lo, n, m, [], r, h => by
    unfold timeL at h
    simp only [] at h
    split at h
    · cases h
    · simp only [Option.some.injEq, Prod.mk.injEq] at h
      rw [← h.2]; exact List.suffix_refl _
  | f + 1, lo, n, m, c :: t, r, h => by
    unfold timeL at h
    simp only [] at h
    split at h
    · split at h
      · cases h
      · next x r1 h1 =>
        split at h
        · cases h
        · next u r2 h2 =>
          split at h
          · cases h
          · exact (time_suf h).trans ((unit_suf h2).trans (run10_suf h1))
    · split at h
      · cases h
      · simp only [Option.some.injEq, Prod.mk.injEq] at h
        rw [← h.2]; exact List.suffix_refl _
theorem typedN_suf {ty : Int} {l r : Bs} {t : Tk} (h : typedN ty l = some (t, r)) : r <:+ l := by
  unfold typedN at h
  split at h
  · split at h
    · cases h
    · next n r' h1 =>
      split at h
      · simp only [Option.some.injEq, Prod.mk.injEq] at h
        rw [← h.2]; exact (digs_suf _ _ h1).trans (suf_tail l)
      · cases h
  · split at h
    · cases h
    · next n r' h1 =>
      split at h
      · simp only [Option.some.injEq, Prod.mk.injEq] at h
        rw [← h.2]; exact digs_suf _ _ h1
      · cases h
theorem typed_suf {w l r : Bs} {t : Tk} (h : typedL w l = some (t, r)) : r <:+ l := by
  unfold typedL at h
  split at h
  · obtain ⟨a, h1, _⟩ := map_fst (g := fun n : Nat => numT (n : Int) 4) h; exact time_suf h1
  · repeat' split at h
    all_goals first
      | exact typedN_suf h
      | cases h
theorem rest_suf (l : Bs) : restL l <:+ l := List.dropWhile_suffix _
theorem rest_let {c : UInt8} {r : Bs} (h : isLet c = true) : restL (c :: r) <:+ r := by
  unfold restL
  rw [List.dropWhile_cons, if_pos (by unfold isWord; rw [h]; rfl)]
  exact List.dropWhile_suffix _
theorem based_lt {c : UInt8} {r r' : Bs} {n : Int} (h : based (c :: r) = some (n, r')) : r'.length < (c :: r).length := by
  have key : ∀ {base most : Nat} {l : Bs} {m : Nat} {q : Bs}, digs base most false 0 l = some (m, q) → q.length < l.length := fun {base most l m q} h => by
    cases l with
    | nil => cases h
    | cons a t =>
      unfold digs at h
      split at h
      · split at h
        · cases h
        · have := (digs_suf _ _ h).length_le
          simp; omega
      · split at h
        · next hc => cases hc.2.1
        · cases h
  unfold based at h
  split at h
  · obtain ⟨a, h1, _⟩ := map_fst h; have := key h1; simp at this ⊢; omega
  · split at h
    · obtain ⟨a, h1, _⟩ := map_fst h; have := key h1; simp at this ⊢; omega
    · split at h
      · obtain ⟨a, h1, _⟩ := map_fst h; have := key h1; simp at this ⊢; omega
      · obtain ⟨a, h1, _⟩ := map_fst (g := fun n : Nat => (n : Int)) h; exact key h1
theorem sign_lt {l r : Bs} {t : Tk} (h : signL l = some (t, r)) : r <:+ l ∧ r.length < l.length := by
  unfold signL at h
  split at h
  · next hs =>
    simp only [Option.some.injEq, Prod.mk.injEq] at h
    rw [← h.2]
    refine ⟨List.drop_suffix _ _, ?_⟩
    have : l.take 2 ≠ [] := fun e => by rw [e] at hs; exact absurd hs (by decide)
    have : l ≠ [] := fun e => this (by rw [e]; rfl)
    have := List.length_pos_iff.2 this
    simp; omega
  · cases l with
    | nil => cases h
    | cons c q =>
      simp only [] at h
      split at h
      · simp only [Option.some.injEq, Prod.mk.injEq] at h
        rw [← h.2]; exact ⟨List.suffix_cons c q, by simp⟩
      · cases h
theorem one_suf {l r : Bs} {t : Tk} (h : oneTok l = some (t, r)) : r <:+ l ∧ r.length < l.length := by
  cases l with
  | nil => cases h
  | cons c q =>
    unfold oneTok at h
    simp only [] at h
    split at h
    · next hl =>
      have hr := rest_let (r := q) hl
      split at h
      · have := (typed_suf h).trans ((suf_tail _).trans hr)
        exact ⟨suf_cons c this, by have := this.length_le; simp; omega⟩
      · split at h
        · simp only [Option.some.injEq, Prod.mk.injEq] at h
          rw [← h.2]
          exact ⟨suf_cons c hr, by have := hr.length_le; simp; omega⟩
        · cases h
    · split at h
      · obtain ⟨a, h1, _⟩ := map_fst (g := fun n : Int => numT n 0) h
        exact ⟨based_suf h1, based_lt h1⟩
      · exact sign_lt h
/-- a text has these tokens -/
inductive Lexes : Bs → List (Tk × Nat) → Prop
  | fin {l : Bs} (h : skip l = .ok []) : Lexes l [(endT, 0)]
  | step {l r r' : Bs} {c : UInt8} {t : Tk} {ts : List (Tk × Nat)} (h : skip l = .ok (c :: r)) (h1 : oneTok (c :: r) = some (t, r')) (h2 : Lexes r' ts) : Lexes l ((t, r.length + 1) :: ts)
theorem toksF_lexes : ∀ {f cnt : Nat} {l : Bs} {ts : List (Tk × Nat)}, toksF f cnt l = .ok ts → Lexes l ts ∧ cnt + ts.length ≤ 4096
  | 0, cnt, l, ts, h => by cases h
  | f + 1, cnt, l, ts, h => by
    unfold toksF at h
    split at h
    · cases h
    · next l' hs =>
      split at h
      · cases h
      · next hc =>
        cases l' with
        | nil =>
          simp only [Except.ok.injEq] at h
          subst h
          exact ⟨.fin hs, by simp; omega⟩
        | cons c r =>
          simp only [] at h
          split at h
          · cases h
          · next t r' h1 =>
            split at h
            · cases h
            · next us h2 =>
              simp only [Except.ok.injEq] at h
              subst h
              obtain ⟨a, b⟩ := toksF_lexes h2
              exact ⟨.step hs h1 a, by simp; omega⟩
theorem lexes_toksF {l : Bs} {ts : List (Tk × Nat)} (h : Lexes l ts) : ∀ (f cnt : Nat), l.length < f → cnt + ts.length ≤ 4096 → toksF f cnt l = .ok ts := by
  induction h with
  | fin hs =>
    intro f cnt hf hc
    obtain ⟨f, rfl⟩ : ∃ g, f = g + 1 := ⟨f - 1, by omega⟩
    unfold toksF
    rw [hs]
    simp only []
    rw [if_neg (by simp at hc; omega)]
  | step hs h1 h2 ih =>
    intro f cnt hf hc
    obtain ⟨f, rfl⟩ : ∃ g, f = g + 1 := ⟨f - 1, by omega⟩
    have l1 := (skip_suf hs).length_le
    have l2 := (one_suf h1).2
    simp only [List.length_cons] at hc
    unfold toksF
    rw [hs]
    simp only []
    rw [if_neg (by omega), h1]
    simp only []
    rw [ih f (cnt + 1) (by omega) (by omega)]
theorem lexes_toks {l : Bs} {ts : List (Tk × Nat)} (h : Lexes l ts) (hl : l.length ≤ 65536) (hn : ts.length ≤ 4096) : toks l = .ok ts := by
  unfold toks
  rw [if_neg (by omega)]
  exact lexes_toksF h _ _ (by omega) (by omega)
theorem toks_lexes {l : Bs} {ts : List (Tk × Nat)} (h : toks l = .ok ts) : Lexes l ts ∧ ts.length ≤ 4096 ∧ l.length ≤ 65536 := by
  unfold toks at h
  split at h
  · cases h
  · obtain ⟨a, b⟩ := toksF_lexes h
    exact ⟨a, by omega, by omega⟩
/-- the places go down (they are told from the end), the last one is the end -/
theorem Lexes.down {l : Bs} {ts : List (Tk × Nat)} (h : Lexes l ts) : (∀ x ∈ ts, x.2 ≤ l.length) ∧ ts.Pairwise (fun x y => y.2 < x.2) := by
  induction h with
  | fin hs => exact ⟨fun x hx => by rw [List.mem_singleton.1 hx]; exact Nat.zero_le _, List.pairwise_singleton _ _⟩
  | step hs h1 h2 ih =>
    have l1 := (skip_suf hs).length_le
    have l2 := (one_suf h1).2
    simp only [List.length_cons] at l1 l2
    refine ⟨fun x hx => ?_, List.pairwise_cons.2 ⟨fun y hy => ?_, ih.2⟩⟩
    · rcases List.mem_cons.1 hx with rfl | hx
      · exact l1
      · have := ih.1 x hx; omega
    · have := ih.1 y hy
      show y.2 < _ + 1
      omega
theorem Lexes.last {l : Bs} {ts : List (Tk × Nat)} (h : Lexes l ts) : ∃ us, ts = us ++ [(endT, 0)] := by
  induction h with
  | fin hs => exact ⟨[], rfl⟩
  | step hs h1 h2 ih =>
    obtain ⟨us, rfl⟩ := ih
    exact ⟨_ :: us, rfl⟩
/-- the tokens hang on what is left behind blanks alone -/
theorem Lexes.congr {l m : Bs} {ts : List (Tk × Nat)} (h : Lexes l ts) (e : skip m = skip l) : Lexes m ts := by
  cases h with
  | fin hs => exact .fin (e.trans hs)
  | step hs h1 h2 => exact .step (e.trans hs) h1 h2
end Go.Proofs.YtldjiieckddhkaaGreatDoor
