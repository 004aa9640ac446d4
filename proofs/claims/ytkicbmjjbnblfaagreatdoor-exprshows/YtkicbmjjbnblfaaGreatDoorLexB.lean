/- What the functions leave is an end of what they had; the tokens as a relation. | A blank behind a text, and whatever behind that, changes no token ahead of it; notes between two texts. | Tokens shown as a text, and back. | There and back: what is shown has the same tokens; a text's tokens can be shown. | A number is the same by whatever base it is written, with a _ between its digits or not. | Expressions read from tokens, as plain functions (no program): names, the reader with a depth, and as a relation. -/
import Derived.Test.YtkicbmjjbnblfaaGreatDoorLexA
namespace Go.Proofs.YtkicbmjjbnblfaaGreatDoor
theorem suf_cons {r l : Bs} (a : UInt8) (h : r <:+ l) : r <:+ a :: l := h.trans (List.suffix_cons a l)
theorem suf_tail (l : Bs) : l.tail <:+ l := List.tail_suffix l
theorem note_suf : ∀ {l r : Bs}, pastNote l = some r → r <:+ l
  | [], r, h => by cases h
  | a :: t, r, h => by
    unfold pastNote at h
    split at h
    · injection h with h
      subst h; exact suf_cons a (suf_tail t)
    · exact suf_cons a (note_suf h)
theorem brace_suf : ∀ {l r : Bs}, pastBrace l = some r → r <:+ l
  | [], r, h => by cases h
  | a :: t, r, h => by
    unfold pastBrace at h
    split at h
    · injection h with h
      subst h; exact List.suffix_cons a t
    · exact suf_cons a (brace_suf h)
theorem line_suf : ∀ l : Bs, toLine l <:+ l
  | [] => List.suffix_refl _
  | a :: t => by
    unfold toLine
    split
    · exact List.suffix_refl _
    · exact suf_cons a (line_suf t)
theorem skipF_suf : ∀ (n : Nat) {l r : Bs}, skipF n l = .ok r → r <:+ l
  | 0, l, r, h => by
    injection h with h
    subst h; exact List.suffix_refl _
  | n + 1, [], r, h => by
    have h' : Except.ok (ε := Bs) [] = .ok r := h
    injection h' with h
    subst h; exact List.suffix_refl _
  | n + 1, c :: t, r, h => by
    unfold skipF at h
    simp only [] at h
    split at h
    · exact suf_cons c (skipF_suf n h)
    · split at h
      · split at h
        · cases h
        · next r' hr => exact suf_cons c ((skipF_suf n h).trans ((note_suf hr).trans (suf_tail t)))
      · split at h
        · exact suf_cons c ((skipF_suf n h).trans (line_suf t))
        · split at h
          · split at h
            · cases h
            · next r' hr => exact suf_cons c ((skipF_suf n h).trans (brace_suf hr))
          · injection h with h
            subst h; exact List.suffix_refl _
theorem skip_suf {l r : Bs} (h : skip l = .ok r) : r <:+ l := skipF_suf _ h
theorem digs_suf (base most : Nat) : ∀ {p : Bool} {n m : Nat} {l r : Bs}, digs base most p n l = some (m, r) → r <:+ l
  | p, n, m, [], r, h => by
    unfold digs at h
    split at h
    · simp only [Option.some.injEq, Prod.mk.injEq] at h
      rw [← h.2]; exact List.suffix_refl _
    · cases h
  | p, n, m, c :: t, r, h => by
    unfold digs at h
    split at h
    · split at h
      · cases h
      · exact suf_cons c (digs_suf base most h)
    · split at h
      · exact suf_cons c (digs_suf base most h)
      · split at h
        · split at h
          · cases h
          · simp only [Option.some.injEq, Prod.mk.injEq] at h
            rw [← h.2]; exact List.suffix_refl _
        · cases h
theorem map_fst {α β : Type} {g : α → β} {x : Option (α × Bs)} {y : β} {r : Bs} (h : x.map (fun z => (g z.1, z.2)) = some (y, r)) : ∃ a, x = some (a, r) ∧ y = g a := by
  cases x with
  | none => cases h
  | some z =>
    simp only [Option.map_some, Option.some.injEq, Prod.mk.injEq] at h
    exact ⟨z.1, by rw [← h.2], h.1.symm⟩
theorem based_suf {l r : Bs} {n : Int} (h : based l = some (n, r)) : r <:+ l := by
  unfold based at h
  split at h
  · obtain ⟨a, h1, _⟩ := map_fst h; exact (digs_suf _ _ h1).trans (List.drop_suffix _ _)
  · split at h
    · obtain ⟨a, h1, _⟩ := map_fst h; exact (digs_suf _ _ h1).trans (List.drop_suffix _ _)
    · split at h
      · obtain ⟨a, h1, _⟩ := map_fst h; exact (digs_suf _ _ h1).trans (List.drop_suffix _ _)
      · obtain ⟨a, h1, _⟩ := map_fst (g := fun n : Nat => (n : Int)) h; exact digs_suf _ _ h1
theorem run10_suf : ∀ {x m : Nat} {l r : Bs}, run10 x l = some (m, r) → r <:+ l
  | x, m, [], r, h => by
    unfold run10 at h
    simp only [Option.some.injEq, Prod.mk.injEq] at h
    rw [← h.2]; exact List.suffix_refl _
  | x, m, c :: t, r, h => by
    unfold run10 at h
    split at h
    · split at h
      · cases h
      · exact suf_cons c (run10_suf h)
    · simp only [Option.some.injEq, Prod.mk.injEq] at h
      rw [← h.2]; exact List.suffix_refl _
theorem unit_suf {l r : Bs} {u : Nat} (h : unitL l = some (u, r)) : r <:+ l := by
  cases l with
  | nil => cases h
  | cons c t =>
    unfold unitL at h
    simp only [] at h
    repeat' split at h
    all_goals first
      | (cases h; done)
      | (simp only [Option.some.injEq, Prod.mk.injEq] at h; rw [← h.2]; exact List.suffix_cons c t)
      | (simp only [Option.some.injEq, Prod.mk.injEq] at h; rw [← h.2]; exact suf_cons c (suf_tail t))
theorem time_suf : ∀ {f lo n m : Nat} {l r : Bs}, timeL f lo n l = some (m, r) → r <:+ l
  | 0, lo, n, m, l, r, h => by cases h
  | f + 1, lo, n, m, [], r, h => by
    unfold timeL at h
    simp only [] at h
    split at h
    · cases h
    · simp only [Option.some.injEq, Prod.mk.injEq] at h
      rw [← h.2]; exact List.suffix_refl _
  | f + 1, lo, n, m, c :: t, r, h => by
    unfold timeL at h
    simp only [] at h
    split at h
    · split at h
      · cases h
      · next x r1 h1 =>
        split at h
        · cases h
        · next u r2 h2 =>
          split at h
          · cases h
          · exact (time_suf h).trans ((unit_suf h2).trans (run10_suf h1))
    · split at h
      · cases h
      · simp only [Option.some.injEq, Prod.mk.injEq] at h
        rw [← h.2]; exact List.suffix_refl _
theorem typedN_suf {ty : Int} {l r : Bs} {t : Tk} (h : typedN ty l = some (t, r)) : r <:+ l := by
  unfold typedN at h
  split at h
  · split at h
    · cases h
    · next n r' h1 =>
      split at h
      · simp only [Option.some.injEq, Prod.mk.injEq] at h
        rw [← h.2]; exact (digs_suf _ _ h1).trans (suf_tail l)
      · cases h
  · split at h
    · cases h
    · next n r' h1 =>
      split at h
      · simp only [Option.some.injEq, Prod.mk.injEq] at h
        rw [← h.2]; exact digs_suf _ _ h1
      · cases h
theorem typed_suf {w l r : Bs} {t : Tk} (h : typedL w l = some (t, r)) : r <:+ l := by
  unfold typedL at h
  split at h
  · obtain ⟨a, h1, _⟩ := map_fst (g := fun n : Nat => numT (n : Int) 4) h; exact time_suf h1
  · repeat' split at h
    all_goals first
      | exact typedN_suf h
      | cases h
theorem rest_suf (l : Bs) : restL l <:+ l := List.dropWhile_suffix _
theorem rest_let {c : UInt8} {r : Bs} (h : isLet c = true) : restL (c :: r) <:+ r := by
  unfold restL
  rw [List.dropWhile_cons, if_pos (by unfold isWord; rw [h]; rfl)]
  exact List.dropWhile_suffix _
theorem based_lt {c : UInt8} {r r' : Bs} {n : Int} (h : based (c :: r) = some (n, r')) : r'.length < (c :: r).length := by
  have key : ∀ {base most : Nat} {l : Bs} {m : Nat} {q : Bs}, digs base most false 0 l = some (m, q) → q.length < l.length := fun {base most l m q} h => by
    cases l with
    | nil => cases h
    | cons a t =>
      unfold digs at h
      split at h
      · split at h
        · cases h
        · have := (digs_suf _ _ h).length_le
          simp; omega
      · split at h
        · next hc => cases hc.2.1
        · cases h
  unfold based at h
  split at h
  · obtain ⟨a, h1, _⟩ := map_fst h; have := key h1; simp at this ⊢; omega
  · split at h
    · obtain ⟨a, h1, _⟩ := map_fst h; have := key h1; simp at this ⊢; omega
    · split at h
      · obtain ⟨a, h1, _⟩ := map_fst h; have := key h1; simp at this ⊢; omega
      · obtain ⟨a, h1, _⟩ := map_fst (g := fun n : Nat => (n : Int)) h; exact key h1
theorem sign_lt {l r : Bs} {t : Tk} (h : signL l = some (t, r)) : r <:+ l ∧ r.length < l.length := by
  unfold signL at h
  split at h
  · next hs =>
    simp only [Option.some.injEq, Prod.mk.injEq] at h
    rw [← h.2]
    refine ⟨List.drop_suffix _ _, ?_⟩
    have : l.take 2 ≠ [] := fun e => by rw [e] at hs; exact absurd hs (by decide)
    have : l ≠ [] := fun e => this (by rw [e]; rfl)
    have := List.length_pos_iff.2 this
    simp; omega
  · cases l with
    | nil => cases h
    | cons c q =>
      simp only [] at h
      split at h
      · simp only [Option.some.injEq, Prod.mk.injEq] at h
        rw [← h.2]; exact ⟨List.suffix_cons c q, by simp⟩
      · cases h
theorem one_suf {l r : Bs} {t : Tk} (h : oneTok l = some (t, r)) : r <:+ l ∧ r.length < l.length := by
  cases l with
  | nil => cases h
  | cons c q =>
    unfold oneTok at h
    simp only [] at h
    split at h
    · next hl =>
      have hr := rest_let (r := q) hl
      split at h
      · have := (typed_suf h).trans ((suf_tail _).trans hr)
        exact ⟨suf_cons c this, by have := this.length_le; simp; omega⟩
      · split at h
        · simp only [Option.some.injEq, Prod.mk.injEq] at h
          rw [← h.2]
          exact ⟨suf_cons c hr, by have := hr.length_le; simp; omega⟩
        · cases h
    · split at h
      · obtain ⟨a, h1, _⟩ := map_fst (g := fun n : Int => numT n 0) h
        exact ⟨based_suf h1, based_lt h1⟩
      · exact sign_lt h
/-- a text has these tokens -/
inductive Lexes : Bs → List (Tk × Nat) → Prop
  | fin {l : Bs} (h : skip l = .ok []) : Lexes l [(endT, 0)]
  | step {l r r' : Bs} {c : UInt8} {t : Tk} {ts : List (Tk × Nat)} (h : skip l = .ok (c :: r)) (h1 : oneTok (c :: r) = some (t, r')) (h2 : Lexes r' ts) : Lexes l ((t, r.length + 1) :: ts)
theorem toksF_lexes : ∀ {f cnt : Nat} {l : Bs} {ts : List (Tk × Nat)}, toksF f cnt l = .ok ts → Lexes l ts ∧ cnt + ts.length ≤ 4096
  | 0, cnt, l, ts, h => by cases h
  | f + 1, cnt, l, ts, h => by
    unfold toksF at h
    split at h
    · cases h
    · next l' hs =>
      split at h
      · cases h
      · next hc =>
        cases l' with
        | nil =>
          simp only [Except.ok.injEq] at h
          subst h
          exact ⟨.fin hs, by simp; omega⟩
        | cons c r =>
          simp only [] at h
          split at h
          · cases h
          · next t r' h1 =>
            split at h
            · cases h
            · next us h2 =>
              simp only [Except.ok.injEq] at h
              subst h
              obtain ⟨a, b⟩ := toksF_lexes h2
              exact ⟨.step hs h1 a, by simp; omega⟩
theorem lexes_toksF {l : Bs} {ts : List (Tk × Nat)} (h : Lexes l ts) : ∀ (f cnt : Nat), l.length < f → cnt + ts.length ≤ 4096 → toksF f cnt l = .ok ts := by
  induction h with
  | fin hs =>
    intro f cnt hf hc
    obtain ⟨f, rfl⟩ : ∃ g, f = g + 1 := ⟨f - 1, by omega⟩
    unfold toksF
    rw [hs]
    simp only []
    rw [if_neg (by simp at hc; omega)]
  | step hs h1 h2 ih =>
    intro f cnt hf hc
    obtain ⟨f, rfl⟩ : ∃ g, f = g + 1 := ⟨f - 1, by omega⟩
    have l1 := (skip_suf hs).length_le
    have l2 := (one_suf h1).2
    simp only [List.length_cons] at hc
    unfold toksF
    rw [hs]
    simp only []
    rw [if_neg (by omega), h1]
    simp only []
    rw [ih f (cnt + 1) (by omega) (by omega)]
theorem lexes_toks {l : Bs} {ts : List (Tk × Nat)} (h : Lexes l ts) (hl : l.length ≤ 65536) (hn : ts.length ≤ 4096) : toks l = .ok ts := by
  unfold toks
  rw [if_neg (by omega)]
  exact lexes_toksF h _ _ (by omega) (by omega)
theorem toks_lexes {l : Bs} {ts : List (Tk × Nat)} (h : toks l = .ok ts) : Lexes l ts ∧ ts.length ≤ 4096 ∧ l.length ≤ 65536 := by
  unfold toks at h
  split at h
  · cases h
  · obtain ⟨a, b⟩ := toksF_lexes h
    exact ⟨a, by omega, by omega⟩
/-- the places go down (they are told from the end), the last one is the end -/
theorem Lexes.down {l : Bs} {ts : List (Tk × Nat)} (h : Lexes l ts) : (∀ x ∈ ts, x.2 ≤ l.length) ∧ ts.Pairwise (fun x y => y.2 < x.2) := by
  induction h with
  | fin hs => exact ⟨fun x hx => by rw [List.mem_singleton.1 hx]; exact Nat.zero_le _, List.pairwise_singleton _ _⟩
  | step hs h1 h2 ih =>
    have l1 := (skip_suf hs).length_le
    have l2 := (one_suf h1).2
    simp only [List.length_cons] at l1 l2
    refine ⟨fun x hx => ?_, List.pairwise_cons.2 ⟨fun y hy => ?_, ih.2⟩⟩
    · rcases List.mem_cons.1 hx with rfl | hx
      · exact l1
      · have := ih.1 x hx; omega
    · have := ih.1 y hy
      show y.2 < _ + 1
      omega
theorem Lexes.last {l : Bs} {ts : List (Tk × Nat)} (h : Lexes l ts) : ∃ us, ts = us ++ [(endT, 0)] := by
  induction h with
  | fin hs => exact ⟨[], rfl⟩
  | step hs h1 h2 ih =>
    obtain ⟨us, rfl⟩ := ih
    exact ⟨_ :: us, rfl⟩
/-- the tokens hang on what is left behind blanks alone -/
theorem Lexes.congr {l m : Bs} {ts : List (Tk × Nat)} (h : Lexes l ts) (e : skip m = skip l) : Lexes m ts := by
  cases h with
  | fin hs => exact .fin (e.trans hs)
  | step hs h1 h2 => exact .step (e.trans hs) h1 h2
end Go.Proofs.YtkicbmjjbnblfaaGreatDoor
namespace Go.Proofs.YtkicbmjjbnblfaaGreatDoor
theorem blk_facts {d : UInt8} (h : isBlk d = true) : isLet d = false ∧ isDig d = false ∧ worth d = 99 ∧ d ≠ 95 ∧ d ≠ 35 ∧ d ≠ 45 ∧ d ≠ 42 ∧ d ≠ 47 ∧ d ≠ 41 ∧ d ≠ 61 ∧ d ≠ 62 ∧ d ≠ 46 ∧ d ∉ signs1 ∧ upC d ≠ 68 ∧ upC d ≠ 72 ∧ upC d ≠ 83 ∧ upC d ≠ 77 :=
  all8 (P := fun d => isBlk d = true → isLet d = false ∧ isDig d = false ∧ worth d = 99 ∧ d ≠ 95 ∧ d ≠ 35 ∧ d ≠ 45 ∧ d ≠ 42 ∧ d ≠ 47 ∧ d ≠ 41 ∧ d ≠ 61 ∧ d ≠ 62 ∧ d ≠ 46 ∧ d ∉ signs1 ∧ upC d ≠ 68 ∧ upC d ≠ 72 ∧ upC d ≠ 83 ∧ upC d ≠ 77) (by decide +kernel) d h
theorem ext_digs {base : Nat} (hb : base ≤ 16) (most : Nat) {d : UInt8} (hd : isBlk d = true) (e : Bs) : ∀ (p : Bool) (n : Nat) (l : Bs), digs base most p n (l ++ d :: e) = mapR (· ++ d :: e) (digs base most p n l)
  | p, n, [] => by
    obtain ⟨_, h2, h3, h4, _⟩ := blk_facts hd
    show digs base most p n (d :: e) = _
    unfold digs
    rw [if_neg (by rw [h3]; omega), if_neg (fun h => h4 h.1)]
    cases p with
    | false => rfl
    | true =>
      rw [if_pos rfl, if_pos rfl, if_neg (fun h => by rcases h with h | h; · exact h4 h
                                                      · rw [h2] at h; cases h)]
      rfl
  | p, n, c :: r => by
    have hw : headW base (r ++ d :: e) = headW base r := by
      cases r with
      | nil =>
        show decide (worth d < base) = false
        rw [(blk_facts hd).2.2.1]; exact decide_eq_false (by omega)
      | cons x t => rfl
    rw [List.cons_append]
    unfold digs
    rw [hw]
    split
    · split
      · rfl
      · exact ext_digs hb most hd e _ _ r
    · split
      · exact ext_digs hb most hd e _ _ r
      · cases p with
        | false => rfl
        | true =>
          simp only [if_true]
          split <;> rfl
theorem map_mapX {α β : Type} (f : Bs → Bs) (g : α → β) (x : Option (α × Bs)) : (mapR f x).map (fun y => (g y.1, y.2)) = mapR f (x.map fun y => (g y.1, y.2)) := by
  cases x <;> rfl
theorem ext_take2 {d : UInt8} {a b : UInt8} (hb : d ≠ b) (e l : Bs) (hl : l ≠ []) : ((l ++ d :: e).take 2 = [a, b]) = (l.take 2 = [a, b]) := by
  match l with
  | [] => exact absurd rfl hl
  | [x] =>
    refine propext ⟨fun h => ?_, fun h => ?_⟩
    · simp at h; exact absurd h.2 hb
    · simp at h
  | x :: y :: r => rfl
theorem ext_take3 {d : UInt8} {a b k : UInt8} (hb : d ≠ b) (hk : d ≠ k) (e l : Bs) (hl : l ≠ []) : ((l ++ d :: e).take 3 = [a, b, k]) = (l.take 3 = [a, b, k]) := by
  match l with
  | [] => exact absurd rfl hl
  | [x] =>
    refine propext ⟨fun h => ?_, fun h => ?_⟩
    · simp at h; exact absurd h.2.1 hb
    · simp at h
  | [x, y] =>
    refine propext ⟨fun h => ?_, fun h => ?_⟩
    · simp at h; exact absurd h.2.2 hk
    · simp at h
  | x :: y :: z :: r => rfl
theorem drop_app {k : Nat} {l : Bs} (x : Bs) (h : k ≤ l.length) : (l ++ x).drop k = l.drop k ++ x := by
  rw [List.drop_append_of_le_length h]
theorem len_of_take {k : Nat} {l m : Bs} (h : l.take k = m) (hm : m.length = k) : k ≤ l.length := by
  have := congrArg List.length h
  rw [List.length_take, hm] at this; omega
theorem ext_based {d : UInt8} (hd : isBlk d = true) (e l : Bs) (hl : l ≠ []) : based (l ++ d :: e) = mapR (· ++ d :: e) (based l) := by
  obtain ⟨_, hdig, _, _, h35, _⟩ := blk_facts hd
  have h54 : d ≠ 54 := fun h => by rw [h] at hdig; exact absurd hdig (by decide)
  unfold based
  simp only [ext_take2 (a := 50) h35 e l hl, ext_take2 (a := 56) h35 e l hl, ext_take3 (a := 49) h54 h35 e l hl]
  split
  · next h => rw [drop_app _ (len_of_take h rfl), ext_digs (by decide) _ hd]; exact map_mapX _ low32 _
  · split
    · next h => rw [drop_app _ (len_of_take h rfl), ext_digs (by decide) _ hd]; exact map_mapX _ low32 _
    · split
      · next h => rw [drop_app _ (len_of_take h rfl), ext_digs (by decide) _ hd]; exact map_mapX _ low32 _
      · rw [ext_digs (by decide) _ hd]; exact map_mapX _ (fun n : Nat => (n : Int)) _
theorem ext_run10 {d : UInt8} (hd : isBlk d = true) (e : Bs) : ∀ (x : Nat) (l : Bs), run10 x (l ++ d :: e) = mapR (· ++ d :: e) (run10 x l)
  | x, [] => by
    show run10 x (d :: e) = _
    unfold run10
    rw [(blk_facts hd).2.1]; rfl
  | x, c :: r => by
    rw [List.cons_append]
    unfold run10
    split
    · split
      · rfl
      · exact ext_run10 hd e _ r
    · rfl
theorem ext_unit {d : UInt8} (hd : isBlk d = true) (e l : Bs) : unitL (l ++ d :: e) = mapR (· ++ d :: e) (unitL l) := by
  obtain ⟨_, _, _, _, _, _, _, _, _, _, _, _, _, h68, h72, h83, h77⟩ := blk_facts hd
  cases l with
  | nil =>
    show unitL (d :: e) = none
    unfold unitL
    simp only []
    rw [if_neg h68, if_neg h72, if_neg h83, if_neg h77]
  | cons c r =>
    rw [List.cons_append]
    unfold unitL
    simp only []
    cases r with
    | nil =>
      have hh : ¬ (([] ++ d :: e : Bs).head?.map upC = some 83) := fun h => h83 (by simpa using h)
      have hh' : ¬ (([] : Bs).head?.map upC = some 83) := fun h => by simp at h
      rw [if_neg hh, if_neg hh']
      repeat' split
      all_goals rfl
    | cons y t =>
      have hh : ((y :: t) ++ d :: e : Bs).head? = (y :: t).head? := rfl
      have ht : ((y :: t) ++ d :: e : Bs).tail = (y :: t).tail ++ d :: e := rfl
      rw [hh, ht]
      repeat' split
      all_goals rfl
theorem ext_time {d : UInt8} (hd : isBlk d = true) (e : Bs) : ∀ (f lo n : Nat) (l : Bs), timeL f lo n (l ++ d :: e) = mapR (· ++ d :: e) (timeL f lo n l)
  | 0, lo, n, l => rfl
  | f + 1, lo, n, [] => by
    obtain ⟨_, h2, _, h4, _⟩ := blk_facts hd
    show timeL (f + 1) lo n (d :: e) = _
    unfold timeL
    simp only []
    rw [h2, if_neg (by decide)]
    by_cases h : lo = 0
    · rw [if_pos (.inl h), if_pos h]; rfl
    · rw [if_neg (fun x => x.elim h h4), if_neg h]; rfl
  | f + 1, lo, n, c :: r => by
    have hr := ext_run10 hd e 0 (c :: r)
    rw [List.cons_append] at hr ⊢
    unfold timeL
    simp only []
    rw [hr]
    split
    · cases run10 0 (c :: r) with
      | none => rfl
      | some x =>
        obtain ⟨x, r1⟩ := x
        simp only [mapR]
        rw [ext_unit hd]
        cases unitL r1 with
        | none => rfl
        | some y =>
          obtain ⟨u, r2⟩ := y
          simp only [mapR]
          split
          · rfl
          · exact ext_time hd e f _ _ r2
    · split <;> rfl
theorem head_app {l : Bs} {d k : UInt8} (e : Bs) (hk : d ≠ k) : ((l ++ d :: e).head? = some k) = (l.head? = some k) := by
  cases l with
  | nil =>
    refine propext ⟨fun h => ?_, fun h => by cases h⟩
    exact absurd (Option.some.inj h) hk
  | cons a r => rfl
theorem tail_app {l : Bs} (x : Bs) (h : l ≠ []) : (l ++ x).tail = l.tail ++ x := by
  cases l with
  | nil => exact absurd rfl h
  | cons a r => rfl
theorem head_ne {l : Bs} {k : UInt8} (h : l.head? = some k) : l ≠ [] := fun e => by rw [e] at h; cases h
theorem ext_typedN {d : UInt8} (hd : isBlk d = true) (e : Bs) (ty : Int) (l : Bs) : typedN ty (l ++ d :: e) = mapR (· ++ d :: e) (typedN ty l) := by
  obtain ⟨_, _, _, _, _, h45, _⟩ := blk_facts hd
  unfold typedN
  simp only [head_app e h45]
  split
  · next h =>
    rw [tail_app _ (head_ne h), ext_digs (by decide) _ hd]
    cases digs 10 2147483648 false 0 l.tail with
    | none => rfl
    | some x => obtain ⟨n, r⟩ := x; simp only [mapR]; split <;> rfl
  · rw [ext_digs (by decide) _ hd]
    cases digs 10 2147483648 false 0 l with
    | none => rfl
    | some x => obtain ⟨n, r⟩ := x; simp only [mapR]; split <;> rfl
theorem ext_typed {d : UInt8} (hd : isBlk d = true) (e word l : Bs) : typedL word (l ++ d :: e) = mapR (· ++ d :: e) (typedL word l) := by
  unfold typedL
  rw [ext_time hd, ext_typedN hd, ext_typedN hd, ext_typedN hd]
  split
  · exact map_mapX _ (fun n : Nat => numT (n : Int) 4) _
  · repeat' split
    all_goals rfl
theorem ext_word {d : UInt8} (hd : isBlk d = true) (e : Bs) : ∀ l : Bs, wordL (l ++ d :: e) = wordL l ∧ restL (l ++ d :: e) = restL l ++ d :: e
  | [] => by
    obtain ⟨h1, h2, _⟩ := blk_facts hd
    have hw : isWord d = false := by unfold isWord; rw [h1, h2]; rfl
    constructor
    · show List.takeWhile isWord (d :: e) = []
      rw [List.takeWhile_cons, hw]; rfl
    · show List.dropWhile isWord (d :: e) = d :: e
      rw [List.dropWhile_cons, hw]; rfl
  | c :: r => by
    obtain ⟨a, b⟩ := ext_word hd e r
    unfold wordL restL at *
    rw [List.cons_append, List.takeWhile_cons, List.takeWhile_cons, List.dropWhile_cons, List.dropWhile_cons]
    split
    · rw [a, b]; exact ⟨rfl, rfl⟩
    · exact ⟨rfl, rfl⟩
theorem ext_sign {d : UInt8} (hd : isBlk d = true) (e : Bs) (c : UInt8) (r : Bs) : signL ((c :: r) ++ d :: e) = mapR (· ++ d :: e) (signL (c :: r)) := by
  obtain ⟨_, _, _, _, _, _, h42, _, _, h61, h62, h46, _⟩ := blk_facts hd
  have h2 : (((c :: r) ++ d :: e).take 2 ∈ signs2) = ((c :: r).take 2 ∈ signs2) := by
    have hl : c :: r ≠ [] := fun h => by cases h
    simp only [signs2, List.mem_cons, List.not_mem_nil, or_false]
    simp only [ext_take2 (a := 58) h61 e _ hl, ext_take2 (a := 60) h61 e _ hl, ext_take2 (a := 62) h61 e _ hl, ext_take2 (a := 60) h62 e _ hl, ext_take2 (a := 42) h42 e _ hl, ext_take2 (a := 46) h46 e _ hl]
  unfold signL
  simp only [h2]
  split
  · next h =>
    have hl : 2 ≤ (c :: r).length := by
      simp only [signs2, List.mem_cons, List.not_mem_nil, or_false] at h
      rcases h with h | h | h | h | h | h <;> exact len_of_take h rfl
    rw [drop_app _ hl, List.take_append_of_le_length hl]; rfl
  · rw [List.cons_append]
    simp only []
    split <;> rfl
theorem ext_one {d : UInt8} (hd : isBlk d = true) (e : Bs) (c : UInt8) (r : Bs) : oneTok ((c :: r) ++ d :: e) = mapR (· ++ d :: e) (oneTok (c :: r)) := by
  obtain ⟨_, _, _, _, h35, _⟩ := blk_facts hd
  have hw := ext_word hd e (c :: r)
  have hs := ext_sign hd e c r
  have hb := ext_based hd e (c :: r) (fun h => by cases h)
  rw [List.cons_append] at hw hs hb ⊢
  unfold oneTok
  simp only []
  rw [hw.1, hw.2, hs, hb]
  simp only [head_app e h35]
  split
  · split
    · next h => rw [tail_app _ (head_ne h), ext_typed hd]
    · split <;> rfl
  · split
    · exact map_mapX _ (fun n : Int => numT n 0) _
    · rfl
/-! what is skipped -/
theorem note_app (x : Bs) : ∀ {l r : Bs}, pastNote l = some r → pastNote (l ++ x) = some (r ++ x)
  | [], r, h => by cases h
  | a :: t, r, h => by
    rw [List.cons_append]
    unfold pastNote at h ⊢
    split at h
    · next hc =>
      injection h with h
      cases t with
      | nil => cases hc.2
      | cons b s =>
        rw [if_pos ⟨hc.1, hc.2⟩, ← h]; rfl
    · next hc =>
      cases t with
      | nil => cases h
      | cons b s =>
        rw [if_neg (fun e => hc ⟨e.1, e.2⟩)]
        exact note_app x h
theorem brace_app (x : Bs) : ∀ {l r : Bs}, pastBrace l = some r → pastBrace (l ++ x) = some (r ++ x)
  | [], r, h => by cases h
  | a :: t, r, h => by
    rw [List.cons_append]
    unfold pastBrace at h ⊢
    split at h
    · next hc =>
      injection h with h
      rw [if_pos hc, h]
    · next hc =>
      rw [if_neg hc]
      exact brace_app x h
theorem line_cons (a : UInt8) (t : Bs) : toLine (a :: t) = if a = 10 then a :: t else toLine t := rfl
theorem line_app (x : Bs) : ∀ l : Bs, toLine (l ++ x) = if (10 : UInt8) ∈ l then toLine l ++ x else toLine x
  | [] => rfl
  | a :: t => by
    rw [List.cons_append, line_cons, line_cons]
    by_cases h : a = 10
    · rw [if_pos h, if_pos h, if_pos (by rw [h]; exact List.mem_cons_self)]; rfl
    · rw [if_neg h, if_neg h, line_app x t]
      have : ((10 : UInt8) ∈ a :: t) = ((10 : UInt8) ∈ t) := propext ⟨fun hm => (List.mem_cons.1 hm).elim (fun e => absurd e.symm h) id, List.mem_cons_of_mem a⟩
      simp only [this]
theorem line_none : ∀ {l : Bs}, (10 : UInt8) ∉ l → toLine l = []
  | [], _ => rfl
  | a :: t, h => by
    unfold toLine
    rw [if_neg (fun e => h (by rw [e]; exact List.mem_cons_self)), line_none (fun hm => h (List.mem_cons_of_mem a hm))]
/-- a note to the end of the line stands in the last line -/
def openL : Bs → Bool
  | [] => false
  | a :: r => (decide (a = 47) && (decide (r.head? = some 47) && decide ((10 : UInt8) ∉ r))) || openL r
theorem open_suf {r l : Bs} (h : r <:+ l) (ho : openL l = false) : openL r = false := by
  obtain ⟨p, rfl⟩ := h
  induction p with
  | nil => exact ho
  | cons a p ih =>
    refine ih ?_
    have : openL (a :: (p ++ r)) = false := ho
    unfold openL at this
    rw [Bool.or_eq_false_iff] at this
    exact this.2
/-- a blank behind, and whatever behind that -/
theorem skip_app {d : UInt8} (hd : isBlk d = true) (e : Bs) : ∀ (n : Nat) (l : Bs), l.length ≤ n → (d = 10 ∨ openL l = false) → ∀ r, skip l = .ok r → skip (l ++ d :: e) = if r = [] then skip (d :: e) else .ok (r ++ d :: e)
  | _, [], _, _, r, h => by
    rw [skip_nil] at h
    injection h with h
    subst h; rfl
  | 0, c :: t, hl, _, r, h => by simp at hl
  | n + 1, c :: t, hl, ho, r, h => by
    obtain ⟨_, _, _, _, _, _, h42, h47, _⟩ := blk_facts hd
    simp only [List.length_cons] at hl
    have up : ∀ q : Bs, q <:+ t → (d = 10 ∨ openL q = false) := fun q hq => ho.imp id (fun x => open_suf (suf_cons c hq) x)
    have hh42 : ((t ++ d :: e).head? = some 42) = (t.head? = some 42) := head_app e h42
    have hh47 : ((t ++ d :: e).head? = some 47) = (t.head? = some 47) := head_app e h47
    rw [skip_cons] at h
    rw [List.cons_append, skip_cons]
    simp only [hh42, hh47]
    split at h
    · next hb => rw [if_pos hb]; exact skip_app hd e n t (by omega) (up t (List.suffix_refl _)) r h
    · next hb =>
      rw [if_neg hb]
      split at h
      · next hc =>
        rw [if_pos hc, tail_app _ (head_ne hc.2)]
        split at h
        · cases h
        · next r' hr =>
          rw [note_app _ hr]
          exact skip_app hd e n r' (by have := pastNote_len hr; have := tail_len t; omega) (up r' ((note_suf hr).trans (suf_tail t))) r h
      · next hc =>
        rw [if_neg hc]
        split at h
        · next hc2 =>
          rw [if_pos hc2, line_app]
          split
          · exact skip_app hd e n _ (by have := toLine_len t; omega) (up _ (line_suf t)) r h
          · next hm =>
            rw [line_none hm, skip_nil] at h
            injection h with h
            subst h
            rw [if_pos rfl]
            rcases ho with h10 | ho
            · subst h10; rfl
            · exfalso
              unfold openL at ho
              rw [Bool.or_eq_false_iff] at ho
              have := ho.1
              rw [decide_eq_true hc2.1, decide_eq_true hc2.2, decide_eq_true hm] at this
              exact absurd this (by decide)
        · next hc2 =>
          rw [if_neg hc2]
          split at h
          · next hc3 =>
            rw [if_pos hc3]
            split at h
            · cases h
            · next r' hr =>
              rw [brace_app _ hr]
              exact skip_app hd e n r' (by have := pastBrace_len hr; omega) (up r' (brace_suf hr)) r h
          · next hc3 =>
            rw [if_neg hc3]
            injection h with h
            subst h
            rw [if_neg (by simp)]; rfl
/-- two texts with a blank between them, and what is skipped: their tokens, one behind the other -/
theorem lexes_app {d : UInt8} (hd : isBlk d = true) {m b : Bs} {us : List (Tk × Nat)} (hm : skip (d :: (m ++ b)) = skip b) (hb : Lexes b us) {a : Bs} {ts : List (Tk × Nat)} (ha : Lexes a ts) :
    (d = 10 ∨ openL a = false) → ∃ vs, Lexes (a ++ d :: (m ++ b)) (vs ++ us) ∧ vs.map (·.1) = ts.dropLast.map (·.1) := by
  induction ha with
  | fin hs =>
    intro ho
    refine ⟨[], ?_, rfl⟩
    refine hb.congr ?_
    rw [skip_app hd _ _ _ (Nat.le_refl _) ho _ hs, if_pos rfl, hm]
  | @step l r r' c t ts hs h1 h2 ih =>
    intro ho
    have hsuf := (one_suf h1).1.trans (skip_suf hs)
    obtain ⟨vs, hv, he⟩ := ih (ho.imp id (open_suf hsuf))
    have hk := skip_app hd (m ++ b) _ _ (Nat.le_refl _) ho _ hs
    rw [if_neg (by simp)] at hk
    have h3 := ext_one hd (m ++ b) c r
    rw [h1] at h3
    refine ⟨_ :: vs, .step hk h3 hv, ?_⟩
    obtain ⟨ws, rfl⟩ := h2.last
    simp only [List.map_cons, he]
    rw [← List.cons_append, List.dropLast_concat, List.dropLast_concat, List.map_cons]
end Go.Proofs.YtkicbmjjbnblfaaGreatDoor
namespace Go.Proofs.YtkicbmjjbnblfaaGreatDoor
/-! the notes between two texts -/
theorem between1 (b : Bs) : skip (10 :: ([] ++ b)) = skip b := by simp [skip_cons, isBlk]
theorem between2 (b : Bs) : skip (10 :: ([40, 42, 32, 59, 32, 42, 41] ++ b)) = skip b := by simp [skip_cons, isBlk, pastNote]
theorem between3 (b : Bs) : skip (10 :: ([123, 32, 120, 32, 125] ++ b)) = skip b := by simp [skip_cons, isBlk, pastBrace]
theorem between4 (b : Bs) : skip (32 :: ([40, 42, 32, 97, 32, 47, 47, 32, 98, 32, 42, 41, 32] ++ b)) = skip b := by simp [skip_cons, isBlk, pastNote]
theorem between5 (b : Bs) : skip (10 :: ([47, 47, 32, 99, 32, 42, 41, 10] ++ b)) = skip b := by simp [skip_cons, isBlk, toLine]
theorem between6 (b : Bs) : skip (9 :: ([13, 10] ++ b)) = skip b := by simp [skip_cons, isBlk]
/-! digits -/
def chL (k : Nat) : UInt8 := if k < 10 then UInt8.ofNat (48 + k) else UInt8.ofNat (87 + k)
def chU (k : Nat) : UInt8 := if k < 10 then UInt8.ofNat (48 + k) else UInt8.ofNat (55 + k)
theorem worth_chL (k : Nat) (h : k < 16) : worth (chL k) = k ∧ (isDig (chL k) = true ∨ 10 ≤ k) ∧ chL k ≠ 95 := by
  have : ∀ k : Fin 16, worth (chL k.val) = k.val ∧ (isDig (chL k.val) = true ∨ 10 ≤ k.val) ∧ chL k.val ≠ 95 := by decide +kernel
  exact this ⟨k, h⟩
theorem worth_chU (k : Nat) (h : k < 16) : worth (chU k) = k := by
  have : ∀ k : Fin 16, worth (chU k.val) = k.val := by decide +kernel
  exact this ⟨k, h⟩
def val (base : Nat) (m : Nat) (ds : Bs) : Nat := ds.foldl (fun a c => a * base + worth c) m
theorem val_cons (base m : Nat) (c : UInt8) (ds : Bs) : val base m (c :: ds) = val base (m * base + worth c) ds := rfl
theorem val_app (base m : Nat) (a b : Bs) : val base m (a ++ b) = val base (val base m a) b := by unfold val; rw [List.foldl_append]
theorem val_le {base : Nat} (hb : 1 ≤ base) : ∀ (ds : Bs) (m : Nat), m ≤ val base m ds
  | [], m => Nat.le_refl _
  | c :: ds, m => by
    rw [val_cons]
    refine Nat.le_trans ?_ (val_le hb ds _)
    have : m * 1 ≤ m * base := Nat.mul_le_mul_left m hb
    omega
theorem digs_run {base most : Nat} (hb : 1 ≤ base) : ∀ (ds : Bs) (p : Bool) (m : Nat) (r : Bs), ds ≠ [] → (∀ c ∈ ds, worth c < base) → val base m ds ≤ most → digs base most p m (ds ++ r) = digs base most true (val base m ds) r
  | [], p, m, r, h, _, _ => absurd rfl h
  | c :: ds, p, m, r, _, hd, hv => by
    rw [val_cons] at hv ⊢
    have h1 := val_le hb ds (m * base + worth c)
    rw [List.cons_append]
    conv => lhs; unfold digs
    rw [if_pos (hd c List.mem_cons_self), if_neg (by omega)]
    cases ds with
    | nil => rfl
    | cons x y => exact digs_run hb (x :: y) true _ r (fun h => by cases h) (fun z hz => hd z (List.mem_cons_of_mem c hz)) hv
/-- a _ between each two digits -/
def partL : Bs → Bs
  | [] => []
  | c :: r => match r with
    | [] => [c]
    | _ :: _ => c :: 95 :: partL r
theorem worth_under : worth 95 = 99 := by decide
theorem digs_part {base most : Nat} (hb : 1 ≤ base) (hb16 : base ≤ 16) : ∀ (ds : Bs) (p : Bool) (m : Nat) (r : Bs), ds ≠ [] → (∀ c ∈ ds, worth c < base) → val base m ds ≤ most → digs base most p m (partL ds ++ r) = digs base most true (val base m ds) r
  | [], p, m, r, h, _, _ => absurd rfl h
  | [c], p, m, r, _, hd, hv => digs_run hb [c] p m r (fun h => by cases h) hd hv
  | c :: x :: y, p, m, r, _, hd, hv => by
    rw [val_cons] at hv ⊢
    have h1 := val_le hb (x :: y) (m * base + worth c)
    have hx : worth x < base := hd x (List.mem_cons_of_mem c List.mem_cons_self)
    have hp : headW base (partL (x :: y) ++ r) = true := by
      have : ∃ q, partL (x :: y) = x :: q := by
        cases y with
        | nil => exact ⟨[], rfl⟩
        | cons a b => exact ⟨_, rfl⟩
      obtain ⟨q, hq⟩ := this
      rw [hq]
      exact decide_eq_true hx
    show digs base most p m (c :: 95 :: (partL (x :: y) ++ r)) = _
    conv => lhs; unfold digs
    rw [if_pos (hd c List.mem_cons_self), if_neg (by omega)]
    conv => lhs; unfold digs
    rw [if_neg (by rw [worth_under]; omega), if_pos ⟨rfl, rfl, hp⟩]
    exact digs_part hb hb16 (x :: y) false _ r (fun h => by cases h) (fun z hz => hd z (List.mem_cons_of_mem c hz)) hv
theorem digs_end (base most n : Nat) : digs base most true n [] = some (n, []) := rfl
/-- a number's digits in a base -/
def repF (ch : Nat → UInt8) (base : Nat) : Nat → Nat → Bs
  | 0, _ => []
  | f + 1, n => if n / base = 0 then [ch (n % base)] else repF ch base f (n / base) ++ [ch (n % base)]
theorem rep_facts {ch : Nat → UInt8} {base : Nat} (hb : 2 ≤ base) (hc : ∀ k, k < base → worth (ch k) = k) : ∀ (f n : Nat), n < base ^ f → 0 < f → repF ch base f n ≠ [] ∧ (∀ c ∈ repF ch base f n, ∃ k, k < base ∧ c = ch k) ∧ val base 0 (repF ch base f n) = n
  | 0, n, _, h => absurd h (by omega)
  | f + 1, n, hn, _ => by
    have hm : n % base < base := Nat.mod_lt _ (by omega)
    unfold repF
    split
    · next h0 =>
      refine ⟨fun h => (by cases h), fun c hc => ⟨n % base, hm, List.mem_singleton.1 hc⟩, ?_⟩
      show 0 * base + worth (ch (n % base)) = n
      rw [hc _ hm]
      have := Nat.div_add_mod n base
      rw [h0] at this; omega
    · next h0 =>
      have hf : 0 < f := by
        rcases Nat.eq_zero_or_pos f with rfl | h
        · exact absurd (Nat.div_eq_of_lt (by simpa using hn)) h0
        · exact h
      have hlt : n / base < base ^ f := by
        rw [Nat.pow_succ] at hn
        exact Nat.div_lt_of_lt_mul (by rw [Nat.mul_comm]; exact hn)
      obtain ⟨a, b, c⟩ := rep_facts hb hc f (n / base) hlt hf
      refine ⟨by simp, fun x hx => ?_, ?_⟩
      · rcases List.mem_append.1 hx with hx | hx
        · exact b x hx
        · exact ⟨n % base, hm, List.mem_singleton.1 hx⟩
      · rw [val_app, c]
        show n / base * base + worth (ch (n % base)) = n
        rw [hc _ hm, Nat.mul_comm]
        exact Nat.div_add_mod n base
def dec (n : Nat) : Bs := repF chL 10 20 n
theorem dec_facts {n : Nat} (h : n ≤ 2147483648) : dec n ≠ [] ∧ (∀ c ∈ dec n, isDig c = true) ∧ (∀ c ∈ dec n, worth c < 10) ∧ val 10 0 (dec n) = n := by
  have hp : (10 : Nat) ^ 20 = 100000000000000000000 := by decide
  obtain ⟨a, b, c⟩ := rep_facts (ch := chL) (base := 10) (by decide) (fun k hk => (worth_chL k (by omega)).1) 20 n (by rw [hp]; omega) (by decide)
  refine ⟨a, fun x hx => ?_, fun x hx => ?_, c⟩
  · obtain ⟨k, hk, rfl⟩ := b x hx
    rcases (worth_chL k (by omega)).2.1 with h | h
    · exact h
    · omega
  · obtain ⟨k, hk, rfl⟩ := b x hx
    rw [(worth_chL k (by omega)).1]; exact hk
def hex8 (n : Nat) : Bs := [chU (n / 268435456 % 16), chU (n / 16777216 % 16), chU (n / 1048576 % 16), chU (n / 65536 % 16), chU (n / 4096 % 16), chU (n / 256 % 16), chU (n / 16 % 16), chU (n % 16)]
theorem hex8_facts {n : Nat} (h : n < 4294967296) : (∀ c ∈ hex8 n, worth c < 16) ∧ val 16 0 (hex8 n) = n := by
  have w := fun (k : Nat) => worth_chU (k % 16) (Nat.mod_lt _ (by decide))
  constructor
  · intro c hc
    simp only [hex8, List.mem_cons, List.not_mem_nil, or_false] at hc
    rcases hc with rfl | rfl | rfl | rfl | rfl | rfl | rfl | rfl <;> rw [w] <;> exact Nat.mod_lt _ (by decide)
  · show ((((((((0 * 16 + worth (chU (n / 268435456 % 16))) * 16 + worth (chU (n / 16777216 % 16))) * 16 + worth (chU (n / 1048576 % 16))) * 16 + worth (chU (n / 65536 % 16))) * 16 + worth (chU (n / 4096 % 16))) * 16 + worth (chU (n / 256 % 16))) * 16 + worth (chU (n / 16 % 16))) * 16 + worth (chU (n % 16))) = n
    rw [w, w, w, w, w, w, w, w]
    omega
/-! a token's text -/
def tyName (ty : Int) : Bs := if ty = 1 then [66, 79, 79, 76] else if ty = 2 then [73, 78, 84] else [68, 73, 78, 84]
def signedL (n : Int) : Bs := if n < 0 then 45 :: dec n.natAbs else dec n.natAbs
def showT (t : Tk) : Option Bs :=
  if t.kind = 2 ∧ t.s = [] then
    (if t.ty = 0 then
      (if t.n < 0 then (if -2147483648 ≤ t.n then some ([49, 54, 35] ++ hex8 (t.n + 4294967296).toNat) else none)
       else if t.n ≤ 2147483648 then some (dec t.n.natAbs) else none)
     else if t.ty = 4 then (if 0 ≤ t.n ∧ t.n < 2147483648 then some ([84, 35] ++ (dec t.n.natAbs ++ [109, 115])) else none)
     else if t.ty = 1 ∨ t.ty = 2 ∨ t.ty = 3 then (if fitL t.ty t.n then some (tyName t.ty ++ (35 :: signedL t.n)) else none)
     else none)
  else if (t.kind = 1 ∨ t.kind = 3) ∧ t.n = 0 ∧ t.ty = 0 ∧ t.s ≠ [] ∧ t.s.length ≤ 24 then
    match oneTok t.s with
    | some (x, []) => if x.kind = t.kind ∧ x.s = t.s then some t.s else none
    | _ => none
  else none
theorem digs_dec {n : Nat} (h : n ≤ 2147483648) : digs 10 2147483648 false 0 (dec n) = some (n, []) := by
  obtain ⟨a, _, c, d⟩ := dec_facts h
  have := digs_run (most := 2147483648) (r := []) (by decide) (dec n) false 0 (base := 10) a c (by rw [d]; exact h)
  rw [List.append_nil, d] at this
  exact this
theorem dec_cons {n : Nat} (h : n ≤ 2147483648) : ∃ c r, dec n = c :: r ∧ isDig c = true ∧ ∀ x ∈ r, isDig x = true := by
  obtain ⟨a, b, _, _⟩ := dec_facts h
  cases hd : dec n with
  | nil => exact absurd hd a
  | cons c r => exact ⟨c, r, rfl, b c (by rw [hd]; exact List.mem_cons_self), fun x hx => b x (by rw [hd]; exact List.mem_cons_of_mem c hx)⟩
theorem dig_facts {c : UInt8} (h : isDig c = true) : isLet c = false ∧ c ≠ 35 ∧ c ≠ 45 ∧ c ≠ 95 ∧ isBlk c = false ∧ c ≠ 40 ∧ c ≠ 47 ∧ c ≠ 123 ∧ worth c = c.toNat - 48 ∧ isWord c = true :=
  all8 (P := fun c => isDig c = true → isLet c = false ∧ c ≠ 35 ∧ c ≠ 45 ∧ c ≠ 95 ∧ isBlk c = false ∧ c ≠ 40 ∧ c ≠ 47 ∧ c ≠ 123 ∧ worth c = c.toNat - 48 ∧ isWord c = true) (by decide +kernel) c h
theorem let_facts {c : UInt8} (h : isLet c = true) : isDig c = false ∧ isBlk c = false ∧ c ≠ 40 ∧ c ≠ 47 ∧ c ≠ 123 ∧ isWord c = true :=
  all8 (P := fun c => isLet c = true → isDig c = false ∧ isBlk c = false ∧ c ≠ 40 ∧ c ≠ 47 ∧ c ≠ 123 ∧ isWord c = true) (by decide +kernel) c h
/-- a run of decimal digits has no base ahead of it -/
theorem based_dec {l : Bs} (h : ∀ x ∈ l, isDig x = true) : based l = (digs 10 2147483648 false 0 l).map fun x => ((x.1 : Int), x.2) := by
  have no35 : ∀ {k : Nat}, (35 : UInt8) ∉ l.take k := fun hm => absurd (h _ (List.mem_of_mem_take hm)) (by decide)
  unfold based
  rw [if_neg (fun e => no35 (k := 2) (by rw [e]; decide)), if_neg (fun e => no35 (k := 2) (by rw [e]; decide)), if_neg (fun e => no35 (k := 3) (by rw [e]; decide))]
theorem one_dec {n : Nat} (h : n ≤ 2147483648) : oneTok (dec n) = some (numT n 0, []) := by
  obtain ⟨c, r, hc, hd, hr⟩ := dec_cons h
  have hb := based_dec (l := dec n) (dec_facts h).2.1
  rw [digs_dec h] at hb
  rw [hc] at hb ⊢
  unfold oneTok
  simp only []
  rw [(dig_facts hd).1, hd, hb]; rfl
theorem one_hex {n : Nat} (h1 : 2147483648 ≤ n) (h2 : n < 4294967296) : oneTok ([49, 54, 35] ++ hex8 n) = some (numT ((n : Int) - 4294967296) 0, []) := by
  obtain ⟨a, b⟩ := hex8_facts h2
  have := digs_run (most := 4294967295) (r := []) (by decide) (hex8 n) false 0 (base := 16) (by unfold hex8; exact fun h => by cases h) a (by rw [b]; omega)
  rw [List.append_nil, b] at this
  show (based ([49, 54, 35] ++ hex8 n)).map (fun x => (numT x.1 0, x.2)) = _
  have hb : based ([49, 54, 35] ++ hex8 n) = (digs 16 4294967295 false 0 (hex8 n)).map fun x => (low32 x.1, x.2) := rfl
  rw [hb, this]
  show some (numT (low32 n) 0, []) = _
  unfold low32
  rw [if_pos h1]
theorem run10_run : ∀ (ds : Bs) (m : Nat) (r : Bs), (∀ c ∈ ds, isDig c = true) → val 10 m ds ≤ 2147483648 → run10 m (ds ++ r) = run10 (val 10 m ds) r
  | [], m, r, _, _ => rfl
  | c :: ds, m, r, hd, hv => by
    have hc := hd c List.mem_cons_self
    have hw := (dig_facts hc).2.2.2.2.2.2.2.2.1
    rw [val_cons] at hv ⊢
    have h1 := val_le (base := 10) (by decide) ds (m * 10 + worth c)
    rw [List.cons_append]
    conv => lhs; unfold run10
    rw [if_pos hc, ← hw, if_neg (by omega)]
    exact run10_run ds _ r (fun x hx => hd x (List.mem_cons_of_mem c hx)) hv
theorem one_time {n : Nat} (h : n < 2147483648) : oneTok ([84, 35] ++ (dec n ++ [109, 115])) = some (numT n 4, []) := by
  obtain ⟨a, b, c, d⟩ := dec_facts (n := n) (by omega)
  have hr := run10_run (dec n) 0 [109, 115] b (by rw [d]; omega)
  rw [d] at hr
  have hr2 : run10 n [109, 115] = some (n, [109, 115]) := by unfold run10; rfl
  rw [hr2] at hr
  have ht : timeL 6 0 0 (dec n ++ [109, 115]) = some (n, []) := by
    obtain ⟨c0, r0, hc, hd, _⟩ := dec_cons (n := n) (by omega)
    rw [hc, List.cons_append] at hr ⊢
    unfold timeL
    simp only []
    rw [if_pos hd, hr]
    simp only []
    have hu : unitL [109, 115] = some (4, []) := by decide
    rw [hu]
    simp only []
    rw [if_neg (by show ¬ (4 < 0 ∨ 2147483648 ≤ 0 + n * 1); omega)]
    show timeL 5 5 (0 + n * 1) [] = _
    rw [Nat.zero_add, Nat.mul_one]; rfl
  have e : oneTok ([84, 35] ++ (dec n ++ [109, 115])) = typedL [84] (dec n ++ [109, 115]) := rfl
  rw [e]
  show (timeL 6 0 0 (dec n ++ [109, 115])).map (fun x => (numT x.1 4, x.2)) = _
  rw [ht]; rfl
theorem typedN_signed {ty n : Int} (hf : fitL ty n = true) (hr : -2147483648 ≤ n ∧ n ≤ 2147483647) : typedN ty (signedL n) = some (numT n ty, []) := by
  have hd := digs_dec (n := n.natAbs) (by omega)
  unfold typedN signedL
  split
  · next h0 =>
    rw [if_pos (show (45 :: dec n.natAbs : Bs).head? = some 45 from rfl)]
    show (match digs 10 2147483648 false 0 (dec n.natAbs) with | none => none | some (n, r) => _) = _
    rw [hd]
    simp only []
    have e : -(n.natAbs : Int) = n := by omega
    rw [e, hf]; rfl
  · next h0 =>
    obtain ⟨c, r, hc, hdig, _⟩ := dec_cons (n := n.natAbs) (by omega)
    rw [if_neg (by rw [hc]; intro h; exact (dig_facts hdig).2.2.1 (Option.some.inj h)), hd]
    simp only []
    have e : (n.natAbs : Int) = n := by omega
    rw [e, hf]; rfl
theorem fit_range5 {ty n : Int} (h : fitL ty n = true) : -2147483648 ≤ n ∧ n ≤ 2147483647 := by
  unfold fitL at h
  split at h
  · rw [Bool.or_eq_true] at h
    rcases h with h | h
    · have := of_decide_eq_true h; omega
    · have := of_decide_eq_true h; omega
  · split at h
    · rw [Bool.and_eq_true] at h
      have h1 := of_decide_eq_true h.1
      have h2 := of_decide_eq_true h.2
      omega
    · rw [Bool.and_eq_true] at h
      exact ⟨of_decide_eq_true h.1, of_decide_eq_true h.2⟩
theorem one_typed {ty n : Int} (ht : ty = 1 ∨ ty = 2 ∨ ty = 3) (hf : fitL ty n = true) : oneTok (tyName ty ++ (35 :: signedL n)) = some (numT n ty, []) := by
  have h := typedN_signed hf (fit_range5 hf)
  rcases ht with rfl | rfl | rfl
  · exact h
  · exact h
  · exact h
/-- the text of a token that can be shown is that token's, whole -/
theorem show_one {t : Tk} {s : Bs} (h : showT t = some s) : oneTok s = some (t, []) := by
  obtain ⟨kind, ts, n, ty⟩ := t
  unfold showT at h
  simp only [] at h
  split at h
  · next hk =>
    obtain ⟨rfl, rfl⟩ := hk
    split at h
    · next h0 =>
      subst h0
      split at h
      · split at h
        · next hn hl =>
          injection h with h
          subst h
          rw [one_hex (by omega) (by omega)]
          have e : ((n + 4294967296).toNat : Int) - 4294967296 = n := by omega
          rw [e]; rfl
        · cases h
      · split at h
        · next hn hl =>
          injection h with h
          subst h
          rw [one_dec (by omega)]
          have e : (n.natAbs : Int) = n := by omega
          rw [e]; rfl
        · cases h
    · split at h
      · next h4 =>
        subst h4
        split at h
        · next hn =>
          injection h with h
          subst h
          rw [one_time (by omega)]
          have e : (n.natAbs : Int) = n := by omega
          rw [e]; rfl
        · cases h
      · split at h
        · next ht =>
          split at h
          · next hf =>
            injection h with h
            subst h
            rw [one_typed ht hf]; rfl
          · cases h
        · cases h
  · split at h
    · next hk =>
      obtain ⟨hk, rfl, rfl, hs, _⟩ := hk
      split at h
      · next x h1 =>
        split at h
        · next hx =>
          injection h with h
          subst h
          rw [h1]
          -- the token that came is a word or a sign: no number, no type
          have key : ∀ {l r : Bs} {y : Tk}, oneTok l = some (y, r) → (y.kind = 1 ∨ y.kind = 3) → y.n = 0 ∧ y.ty = 0 := fun {l r y} ho hy => by
            cases l with
            | nil => cases ho
            | cons c q =>
              have num : ∀ {a b : Int}, y = numT a b → False := fun {a b} e => by
                rw [e] at hy
                rcases hy with hy | hy
                · exact absurd (show (2 : Int) = 1 from hy) (by decide)
                · exact absurd (show (2 : Int) = 3 from hy) (by decide)
              unfold oneTok at ho
              simp only [] at ho
              split at ho
              · split at ho
                · exfalso
                  unfold typedL at ho
                  split at ho
                  · obtain ⟨a, _, e⟩ := map_fst (g := fun n : Nat => numT (n : Int) 4) ho; exact num e
                  · have tN : ∀ {ty : Int} {l : Bs}, typedN ty l = some (y, r) → False := fun {ty l} hh => by
                      unfold typedN at hh
                      split at hh
                      · split at hh
                        · cases hh
                        · split at hh
                          · simp only [Option.some.injEq, Prod.mk.injEq] at hh; exact num hh.1.symm
                          · cases hh
                      · split at hh
                        · cases hh
                        · split at hh
                          · simp only [Option.some.injEq, Prod.mk.injEq] at hh; exact num hh.1.symm
                          · cases hh
                    repeat' split at ho
                    all_goals first
                      | exact tN ho
                      | cases ho
                · split at ho
                  · simp only [Option.some.injEq, Prod.mk.injEq] at ho
                    rw [← ho.1]; exact ⟨rfl, rfl⟩
                  · cases ho
              · split at ho
                · obtain ⟨a, _, e⟩ := map_fst (g := fun n : Int => numT n 0) ho; exact (num e).elim
                · unfold signL at ho
                  split at ho
                  · simp only [Option.some.injEq, Prod.mk.injEq] at ho
                    rw [← ho.1]; exact ⟨rfl, rfl⟩
                  · simp only [] at ho
                    split at ho
                    · simp only [Option.some.injEq, Prod.mk.injEq] at ho
                      rw [← ho.1]; exact ⟨rfl, rfl⟩
                    · cases ho
          obtain ⟨hx1, hx2⟩ := hx
          obtain ⟨k1, k2⟩ := key h1 (by rw [hx1]; exact hk)
          obtain ⟨xk, xs, xn, xt⟩ := x
          simp only [] at hx1 hx2 k1 k2
          subst hx1 hx2 k1 k2
          rfl
        · cases h
      · cases h
    · cases h
end Go.Proofs.YtkicbmjjbnblfaaGreatDoor
namespace Go.Proofs.YtkicbmjjbnblfaaGreatDoor
theorem skip_start {c : UInt8} {r : Bs} (h1 : isBlk c = false) (h2 : ¬ (c = 40 ∧ r.head? = some 42)) (h3 : ¬ (c = 47 ∧ r.head? = some 47)) (h4 : c ≠ 123) : skip (c :: r) = .ok (c :: r) := by
  rw [skip_cons, if_neg (by rw [h1]; decide), if_neg h2, if_neg h3, if_neg h4]
/-- a text that is one token, whole: nothing of it is skipped, whatever stands behind a blank -/
theorem one_start {c : UInt8} {r : Bs} {t : Tk} (h : oneTok (c :: r) = some (t, [])) : skip (c :: r) = .ok (c :: r) ∧ ∀ e : Bs, skip (c :: (r ++ 32 :: e)) = .ok (c :: (r ++ 32 :: e)) := by
  have go : isBlk c = false → (∀ q : Bs, (q = r ∨ ∃ e, q = r ++ 32 :: e) → ¬ (c = 40 ∧ q.head? = some 42) ∧ ¬ (c = 47 ∧ q.head? = some 47)) → c ≠ 123 → skip (c :: r) = .ok (c :: r) ∧ ∀ e : Bs, skip (c :: (r ++ 32 :: e)) = .ok (c :: (r ++ 32 :: e)) := fun h1 h2 h3 =>
    ⟨skip_start h1 (h2 r (.inl rfl)).1 (h2 r (.inl rfl)).2 h3, fun e => skip_start h1 (h2 _ (.inr ⟨e, rfl⟩)).1 (h2 _ (.inr ⟨e, rfl⟩)).2 h3⟩
  unfold oneTok at h
  simp only [] at h
  split at h
  · next hl =>
    obtain ⟨_, a, b, c', d, _⟩ := let_facts hl
    exact go a (fun q _ => ⟨fun x => b x.1, fun x => c' x.1⟩) d
  · split at h
    · next hl =>
      obtain ⟨_, _, _, _, a, b, c', d, _⟩ := dig_facts hl
      exact go a (fun q _ => ⟨fun x => b x.1, fun x => c' x.1⟩) d
    · unfold signL at h
      split at h
      · next hs =>
        simp only [Option.some.injEq, Prod.mk.injEq] at h
        -- two bytes
        have hr : ∃ x, r = [x] := by
          have h2 := h.2
          cases r with
          | nil =>
            simp only [signs2, List.mem_cons, List.not_mem_nil, or_false] at hs
            simp at hs
          | cons x y =>
            simp at h2
            exact ⟨x, by rw [h2]⟩
        obtain ⟨x, rfl⟩ := hr
        have hs' : [c, x] ∈ signs2 := hs
        have key : ∀ a b : UInt8, [a, b] ∈ signs2 → isBlk a = false ∧ a ≠ 40 ∧ a ≠ 47 ∧ a ≠ 123 := fun a b hm => by
          simp only [signs2, List.mem_cons, List.not_mem_nil, or_false, List.cons.injEq, and_true] at hm
          rcases hm with ⟨rfl, _⟩ | ⟨rfl, _⟩ | ⟨rfl, _⟩ | ⟨rfl, _⟩ | ⟨rfl, _⟩ | ⟨rfl, _⟩ <;> decide
        obtain ⟨a, b, c', d⟩ := key c x hs'
        exact go a (fun q _ => ⟨fun x => b x.1, fun x => c' x.1⟩) d
      · simp only [] at h
        split at h
        · next hs =>
          simp only [Option.some.injEq, Prod.mk.injEq] at h
          obtain ⟨_, rfl⟩ := h
          have key : c ∈ signs1 → isBlk c = false ∧ c ≠ 123 := all8 (P := fun c => c ∈ signs1 → isBlk c = false ∧ c ≠ 123) (by decide +kernel) c
          obtain ⟨a, d⟩ := key hs
          refine go a (fun q hq => ?_) d
          have hq' : q.head? ≠ some 42 ∧ q.head? ≠ some 47 := by
            rcases hq with rfl | ⟨e, rfl⟩
            · exact ⟨fun x => (by cases x), fun x => (by cases x)⟩
            · exact ⟨fun x => absurd (Option.some.inj x) (by decide), fun x => absurd (Option.some.inj x) (by decide)⟩
          exact ⟨fun x => hq'.1 x.2, fun x => hq'.2 x.2⟩
        · cases h
/-! lists of tokens -/
def joinB : List Bs → Bs
  | [] => []
  | s :: r => match r with
    | [] => s
    | _ :: _ => s ++ 32 :: joinB r
def showAll : List Tk → Option (List Bs)
  | [] => some []
  | t :: r => match showT t with
    | none => none
    | some s => match showAll r with
      | none => none
      | some x => some (s :: x)
theorem lexes_show : ∀ {ts : List Tk} {ss : List Bs}, showAll ts = some ss → ∃ ps, Lexes (joinB ss) ps ∧ ps.map (·.1) = ts ++ [endT]
  | [], ss, h => by
    have h' : some [] = some ss := h
    injection h' with h
    subst h
    exact ⟨[(endT, 0)], .fin rfl, rfl⟩
  | t :: r, ss, h => by
    unfold showAll at h
    split at h
    · cases h
    · next s hs =>
      split at h
      · cases h
      · next x hx =>
        injection h with h
        subst h
        have h1 := show_one hs
        obtain ⟨ps, hl, he⟩ := lexes_show hx
        cases s with
        | nil => cases h1
        | cons c q =>
          obtain ⟨k1, k2⟩ := one_start h1
          cases x with
          | nil =>
            have hr : r = [] := by
              cases r with
              | nil => rfl
              | cons a b =>
                unfold showAll at hx
                split at hx
                · cases hx
                · split at hx
                  · cases hx
                  · cases hx
            subst hr
            exact ⟨_, .step k1 h1 (.fin rfl), rfl⟩
          | cons y z =>
            have h2 := ext_one (d := 32) (by decide) (joinB (y :: z)) c q
            rw [h1] at h2
            refine ⟨_, .step (k2 _) h2 (hl.congr (by show skip (32 :: joinB (y :: z)) = _; rw [skip_cons, if_pos (by decide)])), ?_⟩
            simp only [List.map_cons, he]; rfl
/-! what comes from a text can be shown -/
theorem whole_word : ∀ {w : Bs}, (∀ c ∈ w, isWord c = true) → wordL w = w ∧ restL w = []
  | [], _ => ⟨rfl, rfl⟩
  | a :: r, h => by
    obtain ⟨x, y⟩ := whole_word (w := r) (fun c hc => h c (List.mem_cons_of_mem a hc))
    unfold wordL restL at *
    rw [List.takeWhile_cons, List.dropWhile_cons, if_pos (h a List.mem_cons_self), if_pos (h a List.mem_cons_self), x, y]
    exact ⟨rfl, rfl⟩
theorem word_show {w : Bs} (h2 : ∀ c ∈ w, isWord c = true) (h3 : ∃ c r, w = c :: r ∧ isLet c = true) (h4 : w.length ≤ 24) : showT (wordT (upL w)) = some (upL w) := by
  have hu : ∀ c ∈ upL w, isWord c = true := fun c hc => by
    obtain ⟨a, ha, rfl⟩ := List.mem_map.1 hc
    rw [up_isWord]; exact h2 a ha
  obtain ⟨hw, hr⟩ := whole_word hu
  obtain ⟨c, r, rfl, hc⟩ := h3
  have ho : oneTok (upL (c :: r)) = some (wordT (upL (c :: r)), []) := by
    rw [up_cons] at hw hr ⊢
    unfold oneTok
    simp only []
    rw [hw, hr, up_let, hc, if_pos rfl, if_neg (fun h => by cases h), ← up_cons, up_length, if_pos h4, upL_upL]
  unfold showT
  rw [if_neg (fun h => absurd (show (1 : Int) = 2 from h.1) (by decide)), if_pos ⟨.inl rfl, rfl, rfl, (by rw [up_cons]; exact fun h => by cases h), (by show (upL (c :: r)).length ≤ 24; rw [up_length]; exact h4)⟩]
  show (match oneTok (upL (c :: r)) with | some (x, []) => _ | _ => none) = _
  rw [ho]
  show (if _ then _ else _) = _
  rw [if_pos ⟨rfl, rfl⟩]; rfl
theorem sign_show {s : Bs} (h : s ∈ signs2 ∨ ∃ c, s = [c] ∧ c ∈ signs1) : showT (signT s) = some s := by
  rcases h with h | ⟨c, rfl, hc⟩
  · simp only [signs2, List.mem_cons, List.not_mem_nil, or_false] at h
    rcases h with rfl | rfl | rfl | rfl | rfl | rfl <;> decide
  · have : ∀ c : UInt8, c ∈ signs1 → showT (signT [c]) = some [c] := fun c hc => by
      simp only [signs1, List.mem_cons, List.not_mem_nil, or_false] at hc
      rcases hc with rfl | rfl | rfl | rfl | rfl | rfl | rfl | rfl | rfl | rfl | rfl | rfl | rfl | rfl | rfl | rfl <;> decide
    exact this c hc
theorem digs_le {base most : Nat} : ∀ {p : Bool} {n m : Nat} {l r : Bs}, digs base most p n l = some (m, r) → n ≤ most → m ≤ most
  | p, n, m, [], r, h, hn => by
    unfold digs at h
    split at h
    · simp only [Option.some.injEq, Prod.mk.injEq] at h
      omega
    · cases h
  | p, n, m, c :: t, r, h, hn => by
    unfold digs at h
    split at h
    · split at h
      · cases h
      · exact digs_le h (by omega)
    · split at h
      · exact digs_le h hn
      · split at h
        · split at h
          · cases h
          · simp only [Option.some.injEq, Prod.mk.injEq] at h
            omega
        · cases h
theorem num_show {n : Int} (h : -2147483648 ≤ n ∧ n ≤ 2147483648) : ∃ s, showT (numT n 0) = some s := by
  unfold showT
  rw [if_pos ⟨rfl, rfl⟩, if_pos (show (numT n 0).ty = 0 from rfl)]
  show ∃ s, (if n < 0 then (if -2147483648 ≤ n then _ else _) else if n ≤ 2147483648 then _ else _) = some s
  split
  · rw [if_pos h.1]; exact ⟨_, rfl⟩
  · rw [if_pos h.2]; exact ⟨_, rfl⟩
theorem time_show {n : Nat} (h : n < 2147483648) : ∃ s, showT (numT n 4) = some s := by
  unfold showT
  rw [if_pos ⟨rfl, rfl⟩, if_neg (by show ¬ (4 : Int) = 0; decide), if_pos (show (numT (n : Int) 4).ty = 4 from rfl)]
  show ∃ s, (if 0 ≤ (n : Int) ∧ (n : Int) < 2147483648 then _ else _) = some s
  rw [if_pos (by omega)]; exact ⟨_, rfl⟩
theorem typed_show {ty n : Int} (ht : ty = 1 ∨ ty = 2 ∨ ty = 3) (hf : fitL ty n = true) : ∃ s, showT (numT n ty) = some s := by
  unfold showT
  rw [if_pos ⟨rfl, rfl⟩, if_neg (by show ¬ ty = 0; omega), if_neg (by show ¬ ty = 4; omega), if_pos (show (numT n ty).ty = 1 ∨ (numT n ty).ty = 2 ∨ (numT n ty).ty = 3 from ht)]
  show ∃ s, (if fitL ty n = true then _ else _) = some s
  rw [if_pos hf]; exact ⟨_, rfl⟩
theorem time_lt : ∀ {f lo n m : Nat} {l r : Bs}, timeL f lo n l = some (m, r) → n < 2147483648 → m < 2147483648
  | 0, lo, n, m, l, r, h, _ => by cases h
  | f + 1, lo, n, m, [], r, h, hn => by
    unfold timeL at h
    simp only [] at h
    split at h
    · cases h
    · simp only [Option.some.injEq, Prod.mk.injEq] at h
      omega
  | f + 1, lo, n, m, c :: t, r, h, hn => by
    unfold timeL at h
    simp only [] at h
    split at h
    · split at h
      · cases h
      · split at h
        · cases h
        · split at h
          · cases h
          · exact time_lt h (by omega)
    · split at h
      · cases h
      · simp only [Option.some.injEq, Prod.mk.injEq] at h
        omega
theorem typedN_show {ty : Int} {l r : Bs} {t : Tk} (ht : ty = 1 ∨ ty = 2 ∨ ty = 3) (h : typedN ty l = some (t, r)) : ∃ s, showT t = some s := by
  unfold typedN at h
  split at h
  · split at h
    · cases h
    · split at h
      · next hf =>
        simp only [Option.some.injEq, Prod.mk.injEq] at h
        rw [← h.1]; exact typed_show ht hf
      · cases h
  · split at h
    · cases h
    · split at h
      · next hf =>
        simp only [Option.some.injEq, Prod.mk.injEq] at h
        rw [← h.1]; exact typed_show ht hf
      · cases h
theorem based_range {l r : Bs} {n : Int} (h : based l = some (n, r)) : -2147483648 ≤ n ∧ n ≤ 2147483648 := by
  have low : ∀ {m : Nat}, m ≤ 4294967295 → -2147483648 ≤ low32 m ∧ low32 m ≤ 2147483648 := fun {m} hm => by
    unfold low32; split <;> omega
  unfold based at h
  split at h
  · obtain ⟨a, h1, rfl⟩ := map_fst h; exact low (digs_le h1 (by decide))
  · split at h
    · obtain ⟨a, h1, rfl⟩ := map_fst h; exact low (digs_le h1 (by decide))
    · split at h
      · obtain ⟨a, h1, rfl⟩ := map_fst h; exact low (digs_le h1 (by decide))
      · obtain ⟨a, h1, rfl⟩ := map_fst (g := fun n : Nat => (n : Int)) h
        have := digs_le h1 (by decide)
        omega
theorem word_all (l : Bs) : ∀ c ∈ wordL l, isWord c = true := fun c hc => by
  unfold wordL at hc
  induction l with
  | nil => cases hc
  | cons a r ih =>
    rw [List.takeWhile_cons] at hc
    split at hc
    · next ha =>
      rcases List.mem_cons.1 hc with rfl | hc
      · exact ha
      · exact ih hc
    · cases hc
theorem one_show {l r : Bs} {t : Tk} (h : oneTok l = some (t, r)) : ∃ s, showT t = some s := by
  cases l with
  | nil => cases h
  | cons c q =>
    unfold oneTok at h
    simp only [] at h
    split at h
    · next hl =>
      split at h
      · unfold typedL at h
        split at h
        · obtain ⟨a, h1, rfl⟩ := map_fst (g := fun n : Nat => numT (n : Int) 4) h
          exact time_show (time_lt h1 (by decide))
        · split at h
          · exact typedN_show (.inl rfl) h
          · split at h
            · exact typedN_show (.inr (.inl rfl)) h
            · split at h
              · exact typedN_show (.inr (.inr rfl)) h
              · cases h
      · split at h
        · next hlen =>
          simp only [Option.some.injEq, Prod.mk.injEq] at h
          rw [← h.1]
          have hw : ∃ c' r', wordL (c :: q) = c' :: r' ∧ isLet c' = true := by
            unfold wordL
            rw [List.takeWhile_cons, if_pos (let_facts hl).2.2.2.2.2]
            exact ⟨c, _, rfl, hl⟩
          exact ⟨_, word_show (word_all _) hw hlen⟩
        · cases h
    · split at h
      · obtain ⟨a, h1, rfl⟩ := map_fst (g := fun n : Int => numT n 0) h
        exact num_show (based_range h1)
      · unfold signL at h
        split at h
        · next hs =>
          simp only [Option.some.injEq, Prod.mk.injEq] at h
          rw [← h.1]; exact ⟨_, sign_show (.inl hs)⟩
        · simp only [] at h
          split at h
          · next hs =>
            simp only [Option.some.injEq, Prod.mk.injEq] at h
            rw [← h.1]; exact ⟨_, sign_show (.inr ⟨_, rfl, hs⟩)⟩
          · cases h
theorem all_show {l : Bs} {ps : List (Tk × Nat)} (h : Lexes l ps) : ∃ ss, showAll (ps.dropLast.map (·.1)) = some ss := by
  induction h with
  | fin hs => exact ⟨[], rfl⟩
  | @step l r r' c t ts hs h1 h2 ih =>
    obtain ⟨ss, he⟩ := ih
    obtain ⟨s, hs⟩ := one_show h1
    obtain ⟨ws, rfl⟩ := h2.last
    rw [List.dropLast_concat] at he
    rw [← List.cons_append, List.dropLast_concat, List.map_cons]
    refine ⟨s :: ss, ?_⟩
    unfold showAll
    simp only []
    rw [hs, he]
end Go.Proofs.YtkicbmjjbnblfaaGreatDoor
namespace Go.Proofs.YtkicbmjjbnblfaaGreatDoor
/-- pieces, a blank behind each -/
def blanks : List Bs → Bs
  | [] => []
  | s :: r => s ++ 32 :: blanks r
/-- each piece is one token, whole -/
inductive Each : List Bs → List Tk → Prop
  | nil : Each [] []
  | cons {s : Bs} {t : Tk} {ss : List Bs} {ts : List Tk} (h : oneTok s = some (t, [])) (r : Each ss ts) : Each (s :: ss) (t :: ts)
theorem lexes_pieces : ∀ {ss : List Bs} {ts : List Tk}, Each ss ts → ∃ ps, Lexes (blanks ss) ps ∧ ps.map (·.1) = ts ++ [endT]
  | _, _, .nil => ⟨[(endT, 0)], .fin rfl, rfl⟩
  | s :: ss, t :: ts, .cons h1 h => by
    obtain ⟨ps, hl, he⟩ := lexes_pieces h
    cases s with
    | nil => cases h1
    | cons c q =>
      obtain ⟨k1, k2⟩ := one_start h1
      have h2 := ext_one (d := 32) (by decide) (blanks ss) c q
      rw [h1] at h2
      refine ⟨_, .step (k2 _) h2 (hl.congr (by show skip (32 :: blanks ss) = _; rw [skip_cons, if_pos (by decide)])), ?_⟩
      simp only [List.map_cons, he]; rfl
def rep (base n : Nat) : Bs := repF chL base 40 n
def repP (base n : Nat) (parted : Bool) : Bs := if parted then partL (rep base n) else rep base n
theorem rep_all {base n : Nat} (hb : 2 ≤ base) (hb16 : base ≤ 16) (hn : n < 2147483648) : rep base n ≠ [] ∧ (∀ c ∈ rep base n, worth c < base) ∧ val base 0 (rep base n) = n := by
  have hp : n < base ^ 40 := by
    have h1 : (2 : Nat) ^ 40 ≤ base ^ 40 := Nat.pow_le_pow_left hb 40
    have h2 : (2 : Nat) ^ 40 = 1099511627776 := by decide
    omega
  obtain ⟨a, b, c⟩ := rep_facts (ch := chL) (base := base) hb (fun k hk => (worth_chL k (by omega)).1) 40 n hp (by decide)
  refine ⟨a, fun x hx => ?_, c⟩
  obtain ⟨k, hk, rfl⟩ := b x hx
  rw [(worth_chL k (by omega)).1]; exact hk
theorem digs_rep {base n most : Nat} (hb : 2 ≤ base) (hb16 : base ≤ 16) (hn : n < 2147483648) (hm : 2147483647 ≤ most) (parted : Bool) : digs base most false 0 (repP base n parted) = some (n, []) := by
  obtain ⟨a, b, c⟩ := rep_all hb hb16 hn
  cases parted with
  | false =>
    have := digs_run (most := most) (r := []) (by omega : 1 ≤ base) (rep base n) false 0 a b (by rw [c]; omega)
    rw [List.append_nil, c] at this
    exact this
  | true =>
    have := digs_part (most := most) (r := []) (by omega : 1 ≤ base) hb16 (rep base n) false 0 a b (by rw [c]; omega)
    rw [List.append_nil, c] at this
    exact this
theorem part_mem : ∀ {ds : Bs} {c : UInt8}, c ∈ partL ds → c ∈ ds ∨ c = 95
  | [], c, h => by cases h
  | [x], c, h => .inl h
  | x :: y :: r, c, h => by
    have h' : c ∈ x :: 95 :: partL (y :: r) := h
    rcases List.mem_cons.1 h' with rfl | h'
    · exact .inl List.mem_cons_self
    · rcases List.mem_cons.1 h' with rfl | h'
      · exact .inr rfl
      · exact (part_mem h').imp (List.mem_cons_of_mem x) id
theorem part_head (c : UInt8) (r : Bs) : ∃ q, partL (c :: r) = c :: q := by
  cases r with
  | nil => exact ⟨[], rfl⟩
  | cons a b => exact ⟨_, rfl⟩
theorem dec_dig {c : UInt8} (h : worth c < 10) : isDig c = true ∧ c ≠ 35 := all8 (P := fun c => worth c < 10 → isDig c = true ∧ c ≠ 35) (by decide +kernel) c h
theorem repP10 {n : Nat} (hn : n < 2147483648) (parted : Bool) : (∃ c q, repP 10 n parted = c :: q ∧ isDig c = true) ∧ ∀ c ∈ repP 10 n parted, c ≠ 35 := by
  obtain ⟨a, b, _⟩ := rep_all (base := 10) (by decide) (by decide) hn
  cases hr : rep 10 n with
  | nil => exact absurd hr a
  | cons c q =>
    have hc := dec_dig (b c (by rw [hr]; exact List.mem_cons_self))
    cases parted with
    | false => exact ⟨⟨c, q, hr, hc.1⟩, fun x hx => (dec_dig (b x hx)).2⟩
    | true =>
      obtain ⟨q', hq⟩ := part_head c q
      refine ⟨⟨c, q', by show partL (rep 10 n) = _; rw [hr, hq], hc.1⟩, fun x hx => ?_⟩
      rcases part_mem (show x ∈ partL (rep 10 n) from hx) with h | rfl
      · exact (dec_dig (b x h)).2
      · decide
theorem one_rep10 {n : Nat} (hn : n < 2147483648) (parted : Bool) : oneTok (repP 10 n parted) = some (numT n 0, []) := by
  obtain ⟨⟨c, q, hc, hd⟩, h35⟩ := repP10 hn parted
  have hdg := digs_rep (most := 2147483648) (base := 10) (by decide) (by decide) hn (by decide) parted
  have no35 : ∀ {k : Nat}, (35 : UInt8) ∉ (repP 10 n parted).take k := fun hm => h35 _ (List.mem_of_mem_take hm) rfl
  have hb : based (repP 10 n parted) = some ((n : Int), []) := by
    unfold based
    rw [if_neg (fun e => no35 (k := 2) (by rw [e]; decide)), if_neg (fun e => no35 (k := 2) (by rw [e]; decide)), if_neg (fun e => no35 (k := 3) (by rw [e]; decide)), hdg]; rfl
  rw [hc] at hb ⊢
  unfold oneTok
  simp only []
  rw [(dig_facts hd).1, hd, hb]; rfl
theorem one_rep2 {n : Nat} (hn : n < 2147483648) (parted : Bool) : oneTok ([50, 35] ++ repP 2 n parted) = some (numT n 0, []) := by
  have hdg := digs_rep (most := 4294967295) (base := 2) (by decide) (by decide) hn (by decide) parted
  have hb : based ([50, 35] ++ repP 2 n parted) = (digs 2 4294967295 false 0 (repP 2 n parted)).map fun x => (low32 x.1, x.2) := rfl
  show (based ([50, 35] ++ repP 2 n parted)).map (fun x => (numT x.1 0, x.2)) = _
  rw [hb, hdg]
  show some (numT (low32 n) 0, []) = _
  unfold low32; rw [if_neg (by omega)]
theorem one_rep8 {n : Nat} (hn : n < 2147483648) (parted : Bool) : oneTok ([56, 35] ++ repP 8 n parted) = some (numT n 0, []) := by
  have hdg := digs_rep (most := 4294967295) (base := 8) (by decide) (by decide) hn (by decide) parted
  have hb : based ([56, 35] ++ repP 8 n parted) = (digs 8 4294967295 false 0 (repP 8 n parted)).map fun x => (low32 x.1, x.2) := rfl
  show (based ([56, 35] ++ repP 8 n parted)).map (fun x => (numT x.1 0, x.2)) = _
  rw [hb, hdg]
  show some (numT (low32 n) 0, []) = _
  unfold low32; rw [if_neg (by omega)]
theorem one_rep16 {n : Nat} (hn : n < 2147483648) (parted : Bool) : oneTok ([49, 54, 35] ++ repP 16 n parted) = some (numT n 0, []) := by
  have hdg := digs_rep (most := 4294967295) (base := 16) (by decide) (by decide) hn (by decide) parted
  have hb : based ([49, 54, 35] ++ repP 16 n parted) = (digs 16 4294967295 false 0 (repP 16 n parted)).map fun x => (low32 x.1, x.2) := rfl
  show (based ([49, 54, 35] ++ repP 16 n parted)).map (fun x => (numT x.1 0, x.2)) = _
  rw [hb, hdg]
  show some (numT (low32 n) 0, []) = _
  unfold low32; rw [if_neg (by omega)]
theorem typedN_rep {ty : Int} {n : Nat} (hn : n < 2147483648) (parted : Bool) : typedN ty (repP 10 n parted) = if fitL ty n then some (numT n ty, []) else none := by
  obtain ⟨⟨c, q, hc, hd⟩, _⟩ := repP10 hn parted
  have hdg := digs_rep (most := 2147483648) (base := 10) (by decide) (by decide) hn (by decide) parted
  unfold typedN
  rw [if_neg (by rw [hc]; intro h; exact (dig_facts hd).2.2.1 (Option.some.inj h)), hdg]
theorem one_repD {n : Nat} (hn : n < 2147483648) (parted : Bool) : oneTok ([68, 73, 78, 84, 35] ++ repP 10 n parted) = some (numT n 3, []) := by
  have h := typedN_rep (ty := 3) hn parted
  have hf : fitL 3 (n : Int) = true := by
    unfold fitL
    rw [if_neg (by decide), if_neg (by decide), decide_eq_true (by omega), decide_eq_true (by omega)]; rfl
  rw [hf, if_pos rfl] at h
  exact h
theorem one_repI {n : Nat} (hn : n < 2147483648) : oneTok ([73, 78, 84, 35] ++ repP 10 n false) = if n < 32768 then some (numT n 2, []) else none := by
  have h := typedN_rep (ty := 2) hn false
  have hf : fitL 2 (n : Int) = decide (n < 32768) := by
    unfold fitL
    rw [if_neg (by decide), if_pos rfl, decide_eq_true (show (-32768 : Int) ≤ n by omega), Bool.true_and]
    exact decide_eq_decide.2 (by omega)
  rw [hf] at h
  simp only [decide_eq_true_eq] at h
  exact h
/-- the law's text: ten numbers, a blank behind each -/
def numPieces (n : Nat) : List Bs :=
  [repP 10 n false, [50, 35] ++ repP 2 n false, [56, 35] ++ repP 8 n false, [49, 54, 35] ++ repP 16 n false, [68, 73, 78, 84, 35] ++ repP 10 n false,
   repP 10 n true, [50, 35] ++ repP 2 n true, [56, 35] ++ repP 8 n true, [49, 54, 35] ++ repP 16 n true, [68, 73, 78, 84, 35] ++ repP 10 n true]
def numToks (n : Nat) : List Tk := [numT n 0, numT n 0, numT n 0, numT n 0, numT n 3, numT n 0, numT n 0, numT n 0, numT n 0, numT n 3]
theorem lexes_nums {n : Nat} (hn : n < 2147483648) : ∃ ps, Lexes (blanks (numPieces n)) ps ∧ ps.map (·.1) = numToks n ++ [endT] :=
  lexes_pieces (.cons (one_rep10 hn false) (.cons (one_rep2 hn false) (.cons (one_rep8 hn false) (.cons (one_rep16 hn false) (.cons (one_repD hn false)
    (.cons (one_rep10 hn true) (.cons (one_rep2 hn true) (.cons (one_rep8 hn true) (.cons (one_rep16 hn true) (.cons (one_repD hn true) .nil))))))))))
/-- digits of a base: at most so many -/
theorem repF_len (ch : Nat → UInt8) (base : Nat) : ∀ (f n : Nat), (repF ch base f n).length ≤ f
  | 0, n => Nat.le_refl _
  | f + 1, n => by
    unfold repF
    split
    · simp
    · have := repF_len ch base f (n / base)
      simp; omega
theorem part_len : ∀ ds : Bs, (partL ds).length ≤ 2 * ds.length
  | [] => Nat.le_refl _
  | [x] => by show 1 ≤ 2 * 1; omega
  | x :: y :: r => by
    have h := part_len (y :: r)
    show (x :: 95 :: partL (y :: r)).length ≤ _
    simp only [List.length_cons] at h ⊢
    omega
theorem repP_len (base n : Nat) (parted : Bool) : (repP base n parted).length ≤ 80 := by
  have h := repF_len chL base 40 n
  cases parted with
  | false => show (rep base n).length ≤ 80; unfold rep; omega
  | true =>
    have := part_len (rep base n)
    show (partL (rep base n)).length ≤ 80
    unfold rep at *; omega
theorem nums_len (n : Nat) : (blanks (numPieces n)).length ≤ 65536 := by
  have h := fun b p => repP_len b n p
  simp only [numPieces, blanks, List.length_append, List.length_cons, List.length_nil]
  have := h 10 false; have := h 2 false; have := h 8 false; have := h 16 false; have := h 10 true; have := h 2 true; have := h 8 true; have := h 16 true
  omega
theorem toks_nums {n : Nat} (hn : n < 2147483648) : ∃ ps, toks (blanks (numPieces n)) = .ok ps ∧ ps.map (·.1) = numToks n ++ [endT] := by
  obtain ⟨ps, h1, h2⟩ := lexes_nums hn
  refine ⟨ps, lexes_toks h1 (nums_len n) ?_, h2⟩
  have := congrArg List.length h2
  simp only [List.length_map] at this
  rw [this]; show 11 ≤ 4096; decide
theorem toks_int {n : Nat} (hn : n < 2147483648) : if n < 32768 then ∃ ps, toks ([73, 78, 84, 35] ++ repP 10 n false) = .ok ps else toks ([73, 78, 84, 35] ++ repP 10 n false) = .error (([73, 78, 84, 35] ++ repP 10 n false).length, 50) := by
  have h := one_repI hn
  have hlen : ([73, 78, 84, 35] ++ repP 10 n false : Bs).length ≤ 65536 := by
    have := repP_len 10 n false
    simp; omega
  have hs : skip ([73, 78, 84, 35] ++ repP 10 n false) = .ok ([73, 78, 84, 35] ++ repP 10 n false) := skip_start (by decide) (fun x => absurd x.1 (by decide)) (fun x => absurd x.1 (by decide)) (by decide)
  split
  · next hl =>
    rw [if_pos hl] at h
    exact ⟨_, lexes_toks (.step hs h (.fin rfl)) hlen (by show 2 ≤ 4096; decide)⟩
  · next hl =>
    rw [if_neg hl] at h
    unfold toks
    rw [if_neg (by omega)]
    unfold toksF
    rw [hs]
    simp only []
    rw [if_neg (by decide)]
    show (match oneTok ([73, 78, 84, 35] ++ repP 10 n false) with | none => _ | some (t, r') => _) = _
    rw [h]; rfl
end Go.Proofs.YtkicbmjjbnblfaaGreatDoor
namespace Go.Proofs.YtkicbmjjbnblfaaGreatDoor
/-- a part of an expression -/
structure Pt where
  kind : Int
  s : Bs
  f : Bs
  n : Int
  t : Int
def numP (n t : Int) : Pt := ⟨1, [], [], n, t⟩
def varP (s : Bs) : Pt := ⟨2, s, [], 0, 0⟩
def idxP (s : Bs) : Pt := ⟨3, s, [], 0, 0⟩
def fldP (s f : Bs) : Pt := ⟨4, s, f, 0, 0⟩
def opP (n : Int) : Pt := ⟨5, [], [], n, 0⟩
def toP (t : Int) : Pt := ⟨6, [], [], 0, t⟩
def kwB : List Bs := [[80, 82, 79, 71, 82, 65, 77], [69, 78, 68, 95, 80, 82, 79, 71, 82, 65, 77], [86, 65, 82], [86, 65, 82, 95, 73, 78, 80, 85, 84], [86, 65, 82, 95, 79, 85, 84, 80, 85, 84], [69, 78, 68, 95, 86, 65, 82], [65, 82, 82, 65, 89], [79, 70], [66, 79, 79, 76], [73, 78, 84], [68, 73, 78, 84], [84, 73, 77, 69], [84, 79, 78], [84, 79, 70], [84, 80], [67, 84, 85], [67, 84, 68], [82, 95, 84, 82, 73, 71], [70, 95, 84, 82, 73, 71], [83, 82], [82, 83], [81, 85, 65, 68], [73, 70], [84, 72, 69, 78], [69, 76, 83, 73, 70], [69, 76, 83, 69], [69, 78, 68, 95, 73, 70], [67, 65, 83, 69], [69, 78, 68, 95, 67, 65, 83, 69], [87, 72, 73, 76, 69], [68, 79], [69, 78, 68, 95, 87, 72, 73, 76, 69], [70, 79, 82], [84, 79], [66, 89], [69, 78, 68, 95, 70, 79, 82], [82, 69, 80, 69, 65, 84], [85, 78, 84, 73, 76], [69, 78, 68, 95, 82, 69, 80, 69, 65, 84], [69, 88, 73, 84], [82, 69, 84, 85, 82, 78], [65, 78, 68], [79, 82], [88, 79, 82], [78, 79, 84], [77, 79, 68], [84, 82, 85, 69], [70, 65, 76, 83, 69], [84, 79, 95, 73, 78, 84], [84, 79, 95, 68, 73, 78, 84], [84, 79, 95, 84, 73, 77, 69]]
def capC (c : UInt8) : Bool := (decide (65 ≤ c) && decide (c ≤ 90)) || (isDig c || decide (c = 95))
def wordB (s : Bs) : Bool := match s with
  | [] => false
  | c :: r => decide (r.length + 1 ≤ 24) && (!isDig c && (c :: r).all capC)
def nameB (s : Bs) : Bool := !(kwB.contains s) && wordB s
/-- the operations of a row, from the loosest on, and their numbers -/
def rowOps (n : Nat) : List (Int × Bs × Int) := match n with
  | 0 => [(1, [79, 82], 7)]
  | 1 => [(1, [88, 79, 82], 8)]
  | 2 => [(1, [65, 78, 68], 6), (3, [38], 6)]
  | 3 => [(3, [61], 9), (3, [60, 62], 10)]
  | 4 => [(3, [60], 11), (3, [60, 61], 12), (3, [62], 13), (3, [62, 61], 14)]
  | 5 => [(3, [43], 1), (3, [45], 2)]
  | 6 => [(3, [42], 3), (3, [47], 4), (1, [77, 79, 68], 5)]
  | _ => []
def opIn (n : Nat) (t : Tk) : Option Int := ((rowOps n).find? fun x => decide (x.1 = t.kind) && (x.2.1 == t.s)).map (·.2.2)
def isSign (s : Bs) (t : Tk) : Bool := decide (t.kind = 3) && (t.s == s)
def unOp (t : Tk) : Option Int := if t.kind = 3 ∧ t.s = [45] then some 15 else if t.kind = 1 ∧ t.s = [78, 79, 84] then some 16 else none
def toT (s : Bs) : Int := if s = [84, 79, 95, 73, 78, 84] then 2 else if s = [84, 79, 95, 68, 73, 78, 84] then 3 else if s = [84, 79, 95, 84, 73, 77, 69] then 4 else 0
def truB : Bs := [84, 82, 85, 69]
def falB : Bs := [70, 65, 76, 83, 69]
abbrev Res := Except (Nat × Int) (List Pt × List Tk)
/-- between two signs -/
def within (a b : Bs) (d : Nat) (l : List Tk) (go : List Tk → Option Res) : Option Res :=
  match l with
  | [] => some (.error (0, 60))
  | t :: q =>
    if isSign a t then
      (if 200 ≤ d then some (.error (q.length + 1, 2))
       else match go q with
        | none => none
        | some (.error e) => some (.error e)
        | some (.ok (x, r)) =>
          match r with
          | [] => some (.error (0, 60))
          | u :: r' => if isSign b u then some (.ok (x, r')) else some (.error (r'.length + 1, 60)))
    else some (.error (q.length + 1, 60))
def addP (p : Pt) : Option Res → Option Res
  | some (.ok (x, r)) => some (.ok (x ++ [p], r))
  | y => y
/-- behind a name -/
def named (s : Bs) (q : List Tk) (br : Option Res) : Option Res :=
  match q with
  | [] => some (.ok ([varP s], []))
  | u :: r =>
    if isSign [91] u then addP (idxP s) br
    else if isSign [46] u then
      (match r with
       | [] => some (.error (0, 60))
       | v :: r' => if v.kind = 1 then some (.ok ([fldP s v.s], r')) else some (.error (r'.length + 1, 60)))
    else some (.ok ([varP s], u :: r))
/-- what is read: a row of operations, those that follow, a value with its signs, a value -/
inductive Md
  | row (n : Nat)
  | loop (n : Nat)
  | una
  | pri
def rd : Nat → Md → Nat → List Tk → Option Res
  | 0, _, _, _ => none
  | f + 1, .row n, d, l =>
    if 7 ≤ n then rd f .una d l
    else match rd f (.row (n + 1)) d l with
      | some (.ok (x, r)) =>
        match rd f (.loop n) d r with
        | some (.ok (y, r')) => some (.ok (x ++ y, r'))
        | z => z
      | z => z
  | f + 1, .loop n, d, l =>
    match l with
    | [] => some (.ok ([], []))
    | t :: q =>
      match opIn n t with
      | none => some (.ok ([], t :: q))
      | some k =>
        match rd f (.row (n + 1)) d q with
        | some (.ok (x, r)) =>
          match rd f (.loop n) d r with
          | some (.ok (y, r')) => some (.ok (x ++ opP k :: y, r'))
          | z => z
        | z => z
  | f + 1, .una, d, l =>
    match l with
    | [] => rd f .pri d []
    | t :: q =>
      match unOp t with
      | none => rd f .pri d (t :: q)
      | some k => if 200 ≤ d then some (.error (q.length + 1, 2)) else addP (opP k) (rd f .una (d + 1) q)
  | f + 1, .pri, d, l =>
    match l with
    | [] => some (.error (0, 60))
    | t :: q =>
      if t.kind = 2 then some (.ok ([numP t.n t.ty], q))
      else if t.kind = 1 ∧ t.s = truB then some (.ok ([numP 1 1], q))
      else if t.kind = 1 ∧ t.s = falB then some (.ok ([numP 0 1], q))
      else if t.kind = 1 ∧ toT t.s ≠ 0 then addP (toP (toT t.s)) (within [40] [41] d q (rd f (.row 0) (d + 1)))
      else if t.kind = 1 ∧ nameB t.s = true then named t.s q (within [91] [93] d q (rd f (.row 0) (d + 1)))
      else within [40] [41] d (t :: q) (rd f (.row 0) (d + 1))
/-- how many values a part works on -/
def takes (p : Pt) : Nat := if p.kind = 3 ∨ p.kind = 6 then 1 else if p.kind = 5 ∧ (p.n = 15 ∨ p.n = 16) then 1 else if p.kind = 5 then 2 else 0
/-- the depths of what stands there, the last one first; none: a part lacks a value -/
def depths : List Pt → List Nat → Option (List Nat)
  | [], st => some st
  | p :: x, st =>
    if takes p = 0 then depths x (1 :: st)
    else if takes p = 1 then (match st with
      | a :: r => depths x ((a + 1) :: r)
      | [] => none)
    else (match st with
      | a :: b :: r => depths x ((max a b + 1) :: r)
      | _ => none)
def depth (x : List Pt) : Nat := match depths x [] with
  | some [d] => d
  | _ => 0
def fuel (l : List Tk) : Nat := 12 * l.length + 12
def parse (l : List Tk) : Except (Nat × Int) (List Pt × List Tk) := match rd (fuel l) (.row 0) 0 l with
  | none => .error (0, -1)
  | some (.error e) => .error e
  | some (.ok (x, r)) => if 500 < x.length ∨ 24 < depth x then .error (l.length, 2) else .ok (x, r)
end Go.Proofs.YtkicbmjjbnblfaaGreatDoor
