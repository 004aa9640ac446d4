/- What the functions leave is an end of what they had; the tokens as a relation. | A blank behind a text, and whatever behind that, changes no token ahead of it; notes between two texts. -/
import Derived.Test.YtldjiieckddhkaaGreatDoorMg0
namespace Go.Proofs.YtldjiieckddhkaaGreatDoor
theorem suf_cons {r l : Bs} (a : UInt8) (h : r <:+ l) : r <:+ a :: l := h.trans (List.suffix_cons a l)
theorem suf_tail (l : Bs) : l.tail <:+ l := List.tail_suffix l
theorem note_suf : ∀ {l r : Bs}, pastNote l = some r → r <:+ l
  | [], r, h => by cases h
  | a :: t, r, h => by
    unfold pastNote at h
    split at h
    · injection h with h
      subst h; exact suf_cons a (suf_tail t)
    · exact suf_cons a (note_suf h)
theorem brace_suf : ∀ {l r : Bs}, pastBrace l = some r → r <:+ l
  | [], r, h => by cases h
  | a :: t, r, h => by
    unfold pastBrace at h
    split at h
    · injection h with h
      subst h; exact List.suffix_cons a t
    · exact suf_cons a (brace_suf h)
theorem line_suf : ∀ l : Bs, toLine l <:+ l
  | [] => List.suffix_refl _
  | a :: t => by
    unfold toLine
    split
    · exact List.suffix_refl _
    · exact suf_cons a (line_suf t)
theorem skipF_suf : ∀ (n : Nat) {l r : Bs}, skipF n l = .ok r → r <:+ l
  | 0, l, r, h => by
    injection h with h
    subst h; exact List.suffix_refl _
  | n + 1, [], r, h => by
    have h' : Except.ok (ε := Bs) [] = .ok r := h
    injection h' with h
    subst h; exact List.suffix_refl _
  | n + 1, c :: t, r, h => by
    unfold skipF at h
    simp only [] at h
    split at h
    · exact suf_cons c (skipF_suf n h)
    · split at h
      · split at h
        · cases h
        · next r' hr => exact suf_cons c ((skipF_suf n h).trans ((note_suf hr).trans (suf_tail t)))
      · split at h
        · exact suf_cons c ((skipF_suf n h).trans (line_suf t))
        · split at h
          · split at h
            · cases h
            · next r' hr => exact suf_cons c ((skipF_suf n h).trans (brace_suf hr))
          · injection h with h
            subst h; exact List.suffix_refl _
theorem skip_suf {l r : Bs} (h : skip l = .ok r) : r <:+ l := skipF_suf _ h
theorem digs_suf (base most : Nat) : ∀ {p : Bool} {n m : Nat} {l r : Bs}, digs base most p n l = some (m, r) → r <:+ l
  | p, n, m, [], r, h => by
    unfold digs at h
    split at h
    · simp only [Option.some.injEq, Prod.mk.injEq] at h
      rw [← h.2]; exact List.suffix_refl _
    · cases h
  | p, n, m, c :: t, r, h => by
    unfold digs at h
    split at h
    · split at h
      · cases h
      · exact suf_cons c (digs_suf base most h)
    · split at h
      · exact suf_cons c (digs_suf base most h)
      · split at h
        · split at h
          · cases h
          · simp only [Option.some.injEq, Prod.mk.injEq] at h
            rw [← h.2]; exact List.suffix_refl _
        · cases h
theorem map_fst {α β : Type} {g : α → β} {x : Option (α × Bs)} {y : β} {r : Bs} (h : x.map (fun z => (g z.1, z.2)) = some (y, r)) : ∃ a, x = some (a, r) ∧ y = g a := by
  cases x with
  | none => cases h
  | some z =>
    simp only [Option.map_some, Option.some.injEq, Prod.mk.injEq] at h
    exact ⟨z.1, by rw [← h.2], h.1.symm⟩
theorem based_suf {l r : Bs} {n : Int} (h : based l = some (n, r)) : r <:+ l := by
  unfold based at h
  split at h
  · obtain ⟨a, h1, _⟩ := map_fst h; exact (digs_suf _ _ h1).trans (List.drop_suffix _ _)
  · split at h
    · obtain ⟨a, h1, _⟩ := map_fst h; exact (digs_suf _ _ h1).trans (List.drop_suffix _ _)
    · split at h
      · obtain ⟨a, h1, _⟩ := map_fst h; exact (digs_suf _ _ h1).trans (List.drop_suffix _ _)
      · obtain ⟨a, h1, _⟩ := map_fst (g := fun n : Nat => (n : Int)) h; exact digs_suf _ _ h1
theorem run10_suf : ∀ {x m : Nat} {l r : Bs}, run10 x l = some (m, r) → r <:+ l
  | x, m, [], r, h => by
    unfold run10 at h
    simp only [Option.some.injEq, Prod.mk.injEq] at h
    rw [← h.2]; exact List.suffix_refl _
  | x, m, c :: t, r, h => by
    unfold run10 at h
    split at h
    · split at h
      · cases h
      · exact suf_cons c (run10_suf h)
    · simp only [Option.some.injEq, Prod.mk.injEq] at h
      rw [← h.2]; exact List.suffix_refl _
theorem unit_suf {l r : Bs} {u : Nat} (h : unitL l = some (u, r)) : r <:+ l := by
  cases l with
  | nil => cases h
  | cons c t =>
    unfold unitL at h
    simp only [] at h
    repeat' split at h
    all_goals first
      | (cases h; done)
      | (simp only [Option.some.injEq, Prod.mk.injEq] at h; rw [← h.2]; exact List.suffix_cons c t)
      | (simp only [Option.some.injEq, Prod.mk.injEq] at h; rw [← h.2]; exact suf_cons c (suf_tail t))
theorem time_suf : ∀ {f lo n m : Nat} {l r : Bs}, timeL f lo n l = some (m, r) → r <:+ l
  | 0, lo, n, m, l, r, h => by cases h
  | f + 1, lo, n, m, [], r, h => by
    unfold timeL at h
    simp only [] at h
    split at h
    · cases h
    · simp only [Option.some.injEq, Prod.mk.injEq] at h
      rw [← h.2]; exact List.suffix_refl _
  | f + 1, lo, n, m, c :: t, r, h => by
    unfold timeL at h
    simp only [] at h
    split at h
    · split at h
      · cases h
      · next x r1 h1 =>
        split at h
        · cases h
        · next u r2 h2 =>
          split at h
          · cases h
          · exact (time_suf h).trans ((unit_suf h2).trans (run10_suf h1))
    · split at h
      · cases h
      · simp only [Option.some.injEq, Prod.mk.injEq] at h
        rw [← h.2]; exact List.suffix_refl _
theorem typedN_suf {ty : Int} {l r : Bs} {t : Tk} (h : typedN ty l = some (t, r)) : r <:+ l := by
  unfold typedN at h
  split at h
  · split at h
    · cases h
    · next n r' h1 =>
      split at h
      · simp only [Option.some.injEq, Prod.mk.injEq] at h
        rw [← h.2]; exact (digs_suf _ _ h1).trans (suf_tail l)
      · cases h
  · split at h
    · cases h
    · next n r' h1 =>
      split at h
      · simp only [Option.some.injEq, Prod.mk.injEq] at h
        rw [← h.2]; exact digs_suf _ _ h1
      · cases h
theorem typed_suf {w l r : Bs} {t : Tk} (h : typedL w l = some (t, r)) : r <:+ l := by
  unfold typedL at h
  split at h
  · obtain ⟨a, h1, _⟩ := map_fst (g := fun n : Nat => numT (n : Int) 4) h; exact time_suf h1
  · repeat' split at h
    all_goals first
      | exact typedN_suf h
      | cases h
theorem rest_suf (l : Bs) : restL l <:+ l := List.dropWhile_suffix _
theorem rest_let {c : UInt8} {r : Bs} (h : isLet c = true) : restL (c :: r) <:+ r := by
  unfold restL
  rw [List.dropWhile_cons, if_pos (by unfold isWord; rw [h]; rfl)]
  exact List.dropWhile_suffix _
theorem based_lt {c : UInt8} {r r' : Bs} {n : Int} (h : based (c :: r) = some (n, r')) : r'.length < (c :: r).length := by
  have key : ∀ {base most : Nat} {l : Bs} {m : Nat} {q : Bs}, digs base most false 0 l = some (m, q) → q.length < l.length := fun {base most l m q} h => by
    cases l with
    | nil => cases h
    | cons a t =>
      unfold digs at h
      split at h
      · split at h
        · cases h
        · have := (digs_suf _ _ h).length_le
          simp; omega
      · split at h
        · next hc => cases hc.2.1
        · cases h
  unfold based at h
  split at h
  · obtain ⟨a, h1, _⟩ := map_fst h; have := key h1; simp at this ⊢; omega
  · split at h
    · obtain ⟨a, h1, _⟩ := map_fst h; have := key h1; simp at this ⊢; omega
    · split at h
      · obtain ⟨a, h1, _⟩ := map_fst h; have := key h1; simp at this ⊢; omega
      · obtain ⟨a, h1, _⟩ := map_fst (g := fun n : Nat => (n : Int)) h; exact key h1
theorem sign_lt {l r : Bs} {t : Tk} (h : signL l = some (t, r)) : r <:+ l ∧ r.length < l.length := by
  unfold signL at h
  split at h
  · next hs =>
    simp only [Option.some.injEq, Prod.mk.injEq] at h
    rw [← h.2]
    refine ⟨List.drop_suffix _ _, ?_⟩
    have : l.take 2 ≠ [] := fun e => by rw [e] at hs; exact absurd hs (by decide)
    have : l ≠ [] := fun e => this (by rw [e]; rfl)
    have := List.length_pos_iff.2 this
    simp; omega
  · cases l with
    | nil => cases h
    | cons c q =>
      simp only [] at h
      split at h
      · simp only [Option.some.injEq, Prod.mk.injEq] at h
        rw [← h.2]; exact ⟨List.suffix_cons c q, by simp⟩
      · cases h
theorem one_suf {l r : Bs} {t : Tk} (h : oneTok l = some (t, r)) : r <:+ l ∧ r.length < l.length := by
  cases l with
  | nil => cases h
  | cons c q =>
    unfold oneTok at h
    simp only [] at h
    split at h
    · next hl =>
      have hr := rest_let (r := q) hl
      split at h
      · have := (typed_suf h).trans ((suf_tail _).trans hr)
        exact ⟨suf_cons c this, by have := this.length_le; simp; omega⟩
      · split at h
        · simp only [Option.some.injEq, Prod.mk.injEq] at h
          rw [← h.2]
          exact ⟨suf_cons c hr, by have := hr.length_le; simp; omega⟩
        · cases h
    · split at h
      · obtain ⟨a, h1, _⟩ := map_fst (g := fun n : Int => numT n 0) h
        exact ⟨based_suf h1, based_lt h1⟩
      · exact sign_lt h
/-- a text has these tokens -/
inductive Lexes : Bs → List (Tk × Nat) → Prop
  | fin {l : Bs} (h : skip l = .ok []) : Lexes l [(endT, 0)]
  | step {l r r' : Bs} {c : UInt8} {t : Tk} {ts : List (Tk × Nat)} (h : skip l = .ok (c :: r)) (h1 : oneTok (c :: r) = some (t, r')) (h2 : Lexes r' ts) : Lexes l ((t, r.length + 1) :: ts)
theorem toksF_lexes : ∀ {f cnt : Nat} {l : Bs} {ts : List (Tk × Nat)}, toksF f cnt l = .ok ts → Lexes l ts ∧ cnt + ts.length ≤ 4096
  | 0, cnt, l, ts, h => by cases h
  | f + 1, cnt, l, ts, h => by
    unfold toksF at h
    split at h
    · cases h
    · next l' hs =>
      split at h
      · cases h
      · next hc =>
        cases l' with
        | nil =>
          simp only [Except.ok.injEq] at h
          subst h
          exact ⟨.fin hs, by simp; omega⟩
        | cons c r =>
          simp only [] at h
          split at h
          · cases h
          · next t r' h1 =>
            split at h
            · cases h
            · next us h2 =>
              simp only [Except.ok.injEq] at h
              subst h
              obtain ⟨a, b⟩ := toksF_lexes h2
              exact ⟨.step hs h1 a, by simp; omega⟩
theorem lexes_toksF {l : Bs} {ts : List (Tk × Nat)} (h : Lexes l ts) : ∀ (f cnt : Nat), l.length < f → cnt + ts.length ≤ 4096 → toksF f cnt l = .ok ts := by
  induction h with
  | fin hs =>
    intro f cnt hf hc
    obtain ⟨f, rfl⟩ : ∃ g, f = g + 1 := ⟨f - 1, by omega⟩
    unfold toksF
    rw [hs]
    simp only []
    rw [if_neg (by simp at hc; omega)]
  | step hs h1 h2 ih =>
    intro f cnt hf hc
    obtain ⟨f, rfl⟩ : ∃ g, f = g + 1 := ⟨f - 1, by omega⟩
    have l1 := (skip_suf hs).length_le
    have l2 := (one_suf h1).2
    simp only [List.length_cons] at hc
    unfold toksF
    rw [hs]
    simp only []
    rw [if_neg (by omega), h1]
    simp only []
    rw [ih f (cnt + 1) (by omega) (by omega)]
theorem lexes_toks {l : Bs} {ts : List (Tk × Nat)} (h : Lexes l ts) (hl : l.length ≤ 65536) (hn : ts.length ≤ 4096) : toks l = .ok ts := by
  unfold toks
  rw [if_neg (by omega)]
  exact lexes_toksF h _ _ (by omega) (by omega)
theorem toks_lexes {l : Bs} {ts : List (Tk × Nat)} (h : toks l = .ok ts) : Lexes l ts ∧ ts.length ≤ 4096 ∧ l.length ≤ 65536 := by
  unfold toks at h
  split at h
  · cases h
  · obtain ⟨a, b⟩ := toksF_lexes h
    exact ⟨a, by omega, by omega⟩
/-- the places go down (they are told from the end), the last one is the end -/
theorem Lexes.down {l : Bs} {ts : List (Tk × Nat)} (h : Lexes l ts) : (∀ x ∈ ts, x.2 ≤ l.length) ∧ ts.Pairwise (fun x y => y.2 < x.2) := by
  induction h with
  | fin hs => exact ⟨fun x hx => by rw [List.mem_singleton.1 hx]; exact Nat.zero_le _, List.pairwise_singleton _ _⟩
  | step hs h1 h2 ih =>
    have l1 := (skip_suf hs).length_le
    have l2 := (one_suf h1).2
    simp only [List.length_cons] at l1 l2
    refine ⟨fun x hx => ?_, List.pairwise_cons.2 ⟨fun y hy => ?_, ih.2⟩⟩
    · rcases List.mem_cons.1 hx with rfl | hx
      · exact l1
      · have := ih.1 x hx; omega
    · have := ih.1 y hy
      show y.2 < _ + 1
      omega
theorem Lexes.last {l : Bs} {ts : List (Tk × Nat)} (h : Lexes l ts) : ∃ us, ts = us ++ [(endT, 0)] := by
  induction h with
  | fin hs => exact ⟨[], rfl⟩
  | step hs h1 h2 ih =>
    obtain ⟨us, rfl⟩ := ih
    exact ⟨_ :: us, rfl⟩
/-- the tokens hang on what is left behind blanks alone -/
theorem Lexes.congr {l m : Bs} {ts : List (Tk × Nat)} (h : Lexes l ts) (e : skip m = skip l) : Lexes m ts := by
  cases h with
  | fin hs => exact .fin (e.trans hs)
  | step hs h1 h2 => exact .step (e.trans hs) h1 h2
end Go.Proofs.YtldjiieckddhkaaGreatDoor
namespace Go.Proofs.YtldjiieckddhkaaGreatDoor
theorem blk_facts {d : UInt8} (h : isBlk d = true) : isLet d = false ∧ isDig d = false ∧ worth d = 99 ∧ d ≠ 95 ∧ d ≠ 35 ∧ d ≠ 45 ∧ d ≠ 42 ∧ d ≠ 47 ∧ d ≠ 41 ∧ d ≠ 61 ∧ d ≠ 62 ∧ d ≠ 46 ∧ d ∉ signs1 ∧ upC d ≠ 68 ∧ upC d ≠ 72 ∧ upC d ≠ 83 ∧ upC d ≠ 77 :=
  all8 (P := fun d => isBlk d = true → isLet d = false ∧ isDig d = false ∧ worth d = 99 ∧ d ≠ 95 ∧ d ≠ 35 ∧ d ≠ 45 ∧ d ≠ 42 ∧ d ≠ 47 ∧ d ≠ 41 ∧ d ≠ 61 ∧ d ≠ 62 ∧ d ≠ 46 ∧ d ∉ signs1 ∧ upC d ≠ 68 ∧ upC d ≠ 72 ∧ upC d ≠ 83 ∧ upC d ≠ 77) (by decide +kernel) d h
theorem ext_digs {base : Nat} (hb : base ≤ 16) (most : Nat) {d : UInt8} (hd : isBlk d = true) (e : Bs) : ∀ (p : Bool) (n : Nat) (l : Bs), digs base most p n (l ++ d :: e) = mapR (· ++ d :: e) (digs base most p n l)
  | p, n, [] => by
    obtain ⟨_, h2, h3, h4, _⟩ := blk_facts hd
    show digs base most p n (d :: e) = _
    unfold digs
    rw [if_neg (by rw [h3]; omega), if_neg (fun h => h4 h.1)]
    cases p with
    | false => rfl
    | true =>
      rw [if_pos rfl, if_pos rfl, if_neg (fun h => by rcases h with h | h; · exact h4 h
                                                      · rw [h2] at h; cases h)]
      rfl
  | p, n, c :: r => by
    have hw : headW base (r ++ d :: e) = headW base r := by
      cases r with
      | nil =>
        show decide (worth d < base) = false
        rw [(blk_facts hd).2.2.1]; exact decide_eq_false (by omega)
      | cons x t => rfl
    rw [List.cons_append]
    unfold digs
    rw [hw]
    split
    · split
      · rfl
      · exact ext_digs hb most hd e _ _ r
    · split
      · exact ext_digs hb most hd e _ _ r
      · cases p with
        | false => rfl
        | true =>
          simp only [if_true]
          split <;> rfl
theorem map_mapX {α β : Type} (f : Bs → Bs) (g : α → β) (x : Option (α × Bs)) : (mapR f x).map (fun y => (g y.1, y.2)) = mapR f (x.map fun y => (g y.1, y.2)) := by
  cases x <;> rfl
theorem ext_take2 {d : UInt8} {a b : UInt8} (hb : d ≠ b) (e l : Bs) (hl : l ≠ []) : ((l ++ d :: e).take 2 = [a, b]) = (l.take 2 = [a, b]) := by
  match l with
  | [] => exact absurd rfl hl
  | [x] =>
    refine propext ⟨fun h => ?_, fun h => ?_⟩
    · simp at h; exact absurd h.2 hb
    · simp at h
  | x :: y :: r => rfl
theorem ext_take3 {d : UInt8} {a b k : UInt8} (hb : d ≠ b) (hk : d ≠ k) (e l : Bs) (hl : l ≠ []) : ((l ++ d :: e).take 3 = [a, b, k]) = (l.take 3 = [a, b, k]) := by
  match l with
  | [] => exact absurd rfl hl
  | [x] =>
    refine propext ⟨fun h => ?_, fun h => ?_⟩
    · simp at h; exact absurd h.2.1 hb
    · simp at h
  | [x, y] =>
    refine propext ⟨fun h => ?_, fun h => ?_⟩
    · simp at h; exact absurd h.2.2 hk
    · simp at h
  | x :: y :: z :: r => rfl
theorem drop_app {k : Nat} {l : Bs} (x : Bs) (h : k ≤ l.length) : (l ++ x).drop k = l.drop k ++ x := by
  rw [List.drop_append_of_le_length h]
theorem len_of_take {k : Nat} {l m : Bs} (h : l.take k = m) (hm : m.length = k) : k ≤ l.length := by
  have := congrArg List.length h
  rw [List.length_take, hm] at this; omega
theorem ext_based {d : UInt8} (hd : isBlk d = true) (e l : Bs) (hl : l ≠ []) : based (l ++ d :: e) = mapR (· ++ d :: e) (based l) := by
  obtain ⟨_, hdig, _, _, h35, _⟩ := blk_facts hd
  have h54 : d ≠ 54 := fun h => by rw [h] at hdig; exact absurd hdig (by decide)
  unfold based
  simp only [ext_take2 (a := 50) h35 e l hl, ext_take2 (a := 56) h35 e l hl, ext_take3 (a := 49) h54 h35 e l hl]
  split
  · next h => rw [drop_app _ (len_of_take h rfl), ext_digs (by decide) _ hd]; exact map_mapX _ low32 _
  · split
    · next h => rw [drop_app _ (len_of_take h rfl), ext_digs (by decide) _ hd]; exact map_mapX _ low32 _
    · split
      · next h => rw [drop_app _ (len_of_take h rfl), ext_digs (by decide) _ hd]; exact map_mapX _ low32 _
      · rw [ext_digs (by decide) _ hd]; exact map_mapX _ (fun n : Nat => (n : Int)) _
theorem ext_run10 {d : UInt8} (hd : isBlk d = true) (e : Bs) : ∀ (x : Nat) (l : Bs), run10 x (l ++ d :: e) = mapR (· ++ d :: e) (run10 x l)
  | x, [] => by
    show run10 x (d :: e) = _
    unfold run10
    rw [(blk_facts hd).2.1]; rfl
  | x, c :: r => by
    rw [List.cons_append]
    unfold run10
    split
    · split
      · rfl
      · exact ext_run10 hd e _ r
    · rfl
theorem ext_unit {d : UInt8} (hd : isBlk d = true) (e l : Bs) : unitL (l ++ d :: e) = mapR (· ++ d :: e) (unitL l) := by
  obtain ⟨_, _, _, _, _, _, _, _, _, _, _, _, _, h68, h72, h83, h77⟩ := blk_facts hd
  cases l with
  | nil =>
    show unitL (d :: e) = none
    unfold unitL
    simp only []
    rw [if_neg h68, if_neg h72, if_neg h83, if_neg h77]
  | cons c r =>
    rw [List.cons_append]
    unfold unitL
    simp only []
    cases r with
    | nil =>
      have hh : ¬ (([] ++ d :: e : Bs).head?.map upC = some 83) := fun h => h83 (by simpa using h)
      have hh' : ¬ (([] : Bs).head?.map upC = some 83) := fun h => by simp at h
      rw [if_neg hh, if_neg hh']
      repeat' split
      all_goals rfl
    | cons y t =>
      have hh : ((y :: t) ++ d :: e : Bs).head? = (y :: t).head? := rfl
      have ht : ((y :: t) ++ d :: e : Bs).tail = (y :: t).tail ++ d :: e := rfl
      rw [hh, ht]
      repeat' split
      all_goals rfl
theorem ext_time {d : UInt8} (hd : isBlk d = true) (e : Bs) : ∀ (f lo n : Nat) (l : Bs), timeL f lo n (l ++ d :: e) = mapR (· ++ d :: e) (timeL f lo n l)
  | 0, lo, n, l => rfl
  | f + 1, lo, n, [] => by
    obtain ⟨_, h2, _, h4, _⟩ := blk_facts hd
    show timeL (f + 1) lo n (d :: e) = _
    unfold timeL
    simp only []
    rw [h2, if_neg (by decide)]
    by_cases h : lo = 0
    · rw [if_pos (.inl h), if_pos h]; rfl
    · rw [if_neg (fun x => x.elim h h4), if_neg h]; rfl
  | f + 1, lo, n, c :: r => by
    have hr := ext_run10 hd e 0 (c :: r)
    rw [List.cons_append] at hr ⊢
    unfold timeL
    simp only []
    rw [hr]
    split
    · cases run10 0 (c :: r) with
      | none => rfl
      | some x =>
        obtain ⟨x, r1⟩ := x
        simp only [mapR]
        rw [ext_unit hd]
        cases unitL r1 with
        | none => rfl
        | some y =>
          obtain ⟨u, r2⟩ := y
          simp only [mapR]
          split
          · rfl
          · exact ext_time hd e f _ _ r2
    · split <;> rfl
theorem head_app {l : Bs} {d k : UInt8} (e : Bs) (hk : d ≠ k) : ((l ++ d :: e).head? = some k) = (l.head? = some k) := by
  cases l with
  | nil =>
    refine propext ⟨fun h => ?_, fun h => by cases h⟩
    exact absurd (Option.some.inj h) hk
  | cons a r => rfl
theorem tail_app {l : Bs} (x : Bs) (h : l ≠ []) : (l ++ x).tail = l.tail ++ x := by
  cases l with
  | nil => exact absurd rfl h
  | cons a r => rfl
theorem head_ne {l : Bs} {k : UInt8} (h : l.head? = some k) : l ≠ [] := fun e => by rw [e] at h; cases h
theorem ext_typedN {d : UInt8} (hd : isBlk d = true) (e : Bs) (ty : Int) (l : Bs) : typedN ty (l ++ d :: e) = mapR (· ++ d :: e) (typedN ty l) := by
  obtain ⟨_, _, _, _, _, h45, _⟩ := blk_facts hd
  unfold typedN
  simp only [head_app e h45]
  split
  · next h =>
    rw [tail_app _ (head_ne h), ext_digs (by decide) _ hd]
    cases digs 10 2147483648 false 0 l.tail with
    | none => rfl
    | some x => obtain ⟨n, r⟩ := x; simp only [mapR]; split <;> rfl
  · rw [ext_digs (by decide) _ hd]
    cases digs 10 2147483648 false 0 l with
    | none => rfl
    | some x => obtain ⟨n, r⟩ := x; simp only [mapR]; split <;> rfl
theorem ext_typed {d : UInt8} (hd : isBlk d = true) (e word l : Bs) : typedL word (l ++ d :: e) = mapR (· ++ d :: e) (typedL word l) := by
  unfold typedL
  rw [ext_time hd, ext_typedN hd, ext_typedN hd, ext_typedN hd]
  split
  · exact map_mapX _ (fun n : Nat => numT (n : Int) 4) _
  · repeat' split
    all_goals rfl
theorem ext_word {d : UInt8} (hd : isBlk d = true) (e : Bs) : ∀ l : Bs, wordL (l ++ d :: e) = wordL l ∧ restL (l ++ d :: e) = restL l ++ d :: e
  | [] => by
    obtain ⟨h1, h2, _⟩ := blk_facts hd
    have hw : isWord d = false := by unfold isWord; rw [h1, h2]; rfl
    constructor
    · show List.takeWhile isWord (d :: e) = []
      rw [List.takeWhile_cons, hw]; rfl
    · show List.dropWhile isWord (d :: e) = d :: e
      rw [List.dropWhile_cons, hw]; rfl
  | c :: r => by
    obtain ⟨a, b⟩ := ext_word hd e r
    unfold wordL restL at *
    rw [List.cons_append, List.takeWhile_cons, List.takeWhile_cons, List.dropWhile_cons, List.dropWhile_cons]
    split
    · rw [a, b]; exact ⟨rfl, rfl⟩
    · exact ⟨rfl, rfl⟩
theorem ext_sign {d : UInt8} (hd : isBlk d = true) (e : Bs) (c : UInt8) (r : Bs) : signL ((c :: r) ++ d :: e) = mapR (· ++ d :: e) (signL (c :: r)) := by
  obtain ⟨_, _, _, _, _, _, h42, _, _, h61, h62, h46, _⟩ := blk_facts hd
  have h2 : (((c :: r) ++ d :: e).take 2 ∈ signs2) = ((c :: r).take 2 ∈ signs2) := by
    have hl : c :: r ≠ [] := fun h => by cases h
    simp only [signs2, List.mem_cons, List.not_mem_nil, or_false]
    simp only [ext_take2 (a := 58) h61 e _ hl, ext_take2 (a := 60) h61 e _ hl, ext_take2 (a := 62) h61 e _ hl, ext_take2 (a := 60) h62 e _ hl, ext_take2 (a := 42) h42 e _ hl, ext_take2 (a := 46) h46 e _ hl]
  unfold signL
  simp only [h2]
  split
  · next h =>
    have hl : 2 ≤ (c :: r).length := by
      simp only [signs2, List.mem_cons, List.not_mem_nil, or_false] at h
      rcases h with h | h | h | h | h | h <;> exact len_of_take h rfl
    rw [drop_app _ hl, List.take_append_of_le_length hl]; rfl
  · rw [List.cons_append]
    simp only []
    split <;> rfl
theorem ext_one {d : UInt8} (hd : isBlk d = true) (e : Bs) (c : UInt8) (r : Bs) : oneTok ((c :: r) ++ d :: e) = mapR (· ++ d :: e) (oneTok (c :: r)) := by
  obtain ⟨_, _, _, _, h35, _⟩ := blk_facts hd
  have hw := ext_word hd e (c :: r)
  have hs := ext_sign hd e c r
  have hb := ext_based hd e (c :: r) (fun h => by cases h)
  rw [List.cons_append] at hw hs hb ⊢
  unfold oneTok
  simp only []
  rw [hw.1, hw.2, hs, hb]
  simp only [head_app e h35]
  split
  · split
    · next h => rw [tail_app _ (head_ne h), ext_typed hd]
    · split <;> rfl
  · split
    · exact map_mapX _ (fun n : Int => numT n 0) _
    · rfl
/-! what is skipped -/
theorem note_app (x : Bs) : ∀ {l r : Bs}, pastNote l = some r → pastNote (l ++ x) = some (r ++ x)
  | [], r, h => by cases h
  | a :: t, r, h => by
    rw [List.cons_append]
    unfold pastNote at h ⊢
    split at h
    · next hc =>
      injection h with h
      cases t with
      | nil => cases hc.2
      | cons b s =>
        rw [if_pos ⟨hc.1, hc.2⟩, ← h]; rfl
    · next hc =>
      cases t with
      | nil => cases h
      | cons b s =>
        rw [if_neg (fun e => hc ⟨e.1, e.2⟩)]
        exact note_app x h
theorem brace_app (x : Bs) : ∀ {l r : Bs}, pastBrace l = some r → pastBrace (l ++ x) = some (r ++ x)
  | [], r, h => by cases h
  | a :: t, r, h => by
    rw [List.cons_append]
    unfold pastBrace at h ⊢
    split at h
    · next hc =>
      injection h with h
      rw [if_pos hc, h]
    · next hc =>
      rw [if_neg hc]
      exact brace_app x h
theorem line_cons (a : UInt8) (t : Bs) : toLine (a :: t) = if a = 10 then a :: t else toLine t := rfl
theorem line_app (x : Bs) : ∀ l : Bs, toLine (l ++ x) = if (10 : UInt8) ∈ l then toLine l ++ x else toLine x
  | [] => rfl
  | a :: t => by
    rw [List.cons_append, line_cons, line_cons]
    by_cases h : a = 10
    · rw [if_pos h, if_pos h, if_pos (by rw [h]; exact List.mem_cons_self)]; rfl
    · rw [if_neg h, if_neg h, line_app x t]
      have : ((10 : UInt8) ∈ a :: t) = ((10 : UInt8) ∈ t) := propext ⟨fun hm => (List.mem_cons.1 hm).elim (fun e => absurd e.symm h) id, List.mem_cons_of_mem a⟩
      simp only [this]
theorem line_none : ∀ {l : Bs}, (10 : UInt8) ∉ l → toLine l = []
  | [], _ => rfl
  | a :: t, h => by
    unfold toLine
    rw [if_neg (fun e => h (by rw [e]; exact List.mem_cons_self)), line_none (fun hm => h (List.mem_cons_of_mem a hm))]
/-- a note to the end of the line stands in the last line -/
def openL : Bs → Bool
  | [] => false
  | a :: r => (decide (a = 47) && (decide (r.head? = some 47) && decide ((10 : UInt8) ∉ r))) || openL r
theorem open_suf {r l : Bs} (h : r <:+ l) (ho : openL l = false) : openL r = false := by
  obtain ⟨p, rfl⟩ := h
  induction p with
  | nil => exact ho
  | cons a p ih =>
    refine ih ?_
    have : openL (a :: (p ++ r)) = false := ho
    unfold openL at this
    rw [Bool.or_eq_false_iff] at this
    exact this.2
/-- a blank behind, and whatever behind that -/
theorem skip_app {d : UInt8} (hd : isBlk d = true) (e : Bs) : ∀ (n : Nat) (l : Bs), l.length ≤ n → (d = 10 ∨ openL l = false) → ∀ r, skip l = .ok r → skip (l ++ d :: e) = if r = [] then skip (d :: e) else .ok (r ++ d :: e)
  | _, [], _, _, r, h => by
    rw [skip_nil] at h
    injection h with h
    subst h; rfl
  | 0, c :: t, hl, _, r, h => by simp at hl
  | n + 1, c :: t, hl, ho, r, h => by
    obtain ⟨_, _, _, _, _, _, h42, h47, _⟩ := blk_facts hd
    simp only [List.length_cons] at hl
    have up : ∀ q : Bs, q <:+ t → (d = 10 ∨ openL q = false) := fun q hq => ho.imp id (fun x => open_suf (suf_cons c hq) x)
    have hh42 : ((t ++ d :: e).head? = some 42) = (t.head? = some 42) := head_app e h42
    have hh47 : ((t ++ d :: e).head? = some 47) = (t.head? = some 47) := head_app e h47
    rw [skip_cons] at h
    rw [List.cons_append, skip_cons]
    simp only [hh42, hh47]
    split at h
    · next hb => rw [if_pos hb]; exact skip_app hd e n t (by omega) (up t (List.suffix_refl _)) r h
    · next hb =>
      rw [if_neg hb]
      split at h
      · next hc =>
        rw [if_pos hc, tail_app _ (head_ne hc.2)]
        split at h
        · cases h
        · next r' hr =>
          rw [note_app _ hr]
          exact skip_app hd e n r' (by have := pastNote_len hr; have := tail_len t; omega) (up r' ((note_suf hr).trans (suf_tail t))) r h
      · next hc =>
        rw [if_neg hc]
        split at h
        · next hc2 =>
          rw [if_pos hc2, line_app]
          split
          · exact skip_app hd e n _ (by have := toLine_len t; omega) (up _ (line_suf t)) r h
          · next hm =>
            rw [line_none hm, skip_nil] at h
            injection h with h
            subst h
            rw [if_pos rfl]
            rcases ho with h10 | ho
            · subst h10; rfl
            · exfalso
              unfold openL at ho
              rw [Bool.or_eq_false_iff] at ho
              have := ho.1
              rw [decide_eq_true hc2.1, decide_eq_true hc2.2, decide_eq_true hm] at this
              exact absurd this (by decide)
        · next hc2 =>
          rw [if_neg hc2]
          split at h
          · next hc3 =>
            rw [if_pos hc3]
            split at h
            · cases h
            · next r' hr =>
              rw [brace_app _ hr]
              exact skip_app hd e n r' (by have := pastBrace_len hr; omega) (up r' (brace_suf hr)) r h
          · next hc3 =>
            rw [if_neg hc3]
            injection h with h
            subst h
            rw [if_neg (by simp)]; rfl
/-- two texts with a blank between them, and what is skipped: their tokens, one behind the other -/
theorem lexes_app {d : UInt8} (hd : isBlk d = true) {m b : Bs} {us : List (Tk × Nat)} (hm : skip (d :: (m ++ b)) = skip b) (hb : Lexes b us) {a : Bs} {ts : List (Tk × Nat)} (ha : Lexes a ts) :
    (d = 10 ∨ openL a = false) → ∃ vs, Lexes (a ++ d :: (m ++ b)) (vs ++ us) ∧ vs.map (·.1) = ts.dropLast.map (·.1) := by
  induction ha with
  | fin hs =>
    intro ho
    refine ⟨[], ?_, rfl⟩
    refine hb.congr ?_
    rw [skip_app hd _ _ _ (Nat.le_refl _) ho _ hs, if_pos rfl, hm]
  | @step l r r' c t ts hs h1 h2 ih =>
    intro ho
    have hsuf := (one_suf h1).1.trans (skip_suf hs)
    obtain ⟨vs, hv, he⟩ := ih (ho.imp id (open_suf hsuf))
    have hk := skip_app hd (m ++ b) _ _ (Nat.le_refl _) ho _ hs
    rw [if_neg (by simp)] at hk
    have h3 := ext_one hd (m ++ b) c r
    rw [h1] at h3
    refine ⟨_ :: vs, .step hk h3 hv, ?_⟩
    obtain ⟨ws, rfl⟩ := h2.last
    simp only [List.map_cons, he]
    rw [← List.cons_append, List.dropLast_concat, List.dropLast_concat, List.map_cons]
end Go.Proofs.YtldjiieckddhkaaGreatDoor
