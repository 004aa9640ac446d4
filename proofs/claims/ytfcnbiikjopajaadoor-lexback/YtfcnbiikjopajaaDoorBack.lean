/- There and back: what is shown has the same tokens; a text's tokens can be shown. -/
import Derived.Test.YtfcnbiikjopajaaDoorShow
namespace Go.Proofs.YtfcnbiikjopajaaDoor
theorem skip_start {c : UInt8} {r : Bs} (h1 : isBlk c = false) (h2 : ¬ (c = 40 ∧ r.head? = some 42)) (h3 : ¬ (c = 47 ∧ r.head? = some 47)) (h4 : c ≠ 123) : skip (c :: r) = .ok (c :: r) := by
  rw [skip_cons, if_neg (by rw [h1]; decide), if_neg h2, if_neg h3, if_neg h4]
/-- a text that is one token, whole: nothing of it is skipped, whatever stands behind a blank -/
theorem one_start {c : UInt8} {r : Bs} {t : Tk} (h : oneTok (c :: r) = some (t, [])) : skip (c :: r) = .ok (c :: r) ∧ ∀ e : Bs, skip (c :: (r ++ 32 :: e)) = .ok (c :: (r ++ 32 :: e)) := by
  have go : isBlk c = false → (∀ q : Bs, (q = r ∨ ∃ e, q = r ++ 32 :: e) → ¬ (c = 40 ∧ q.head? = some 42) ∧ ¬ (c = 47 ∧ q.head? = some 47)) → c ≠ 123 → skip (c :: r) = .ok (c :: r) ∧ ∀ e : Bs, skip (c :: (r ++ 32 :: e)) = .ok (c :: (r ++ 32 :: e)) := fun h1 h2 h3 =>
    ⟨skip_start h1 (h2 r (.inl rfl)).1 (h2 r (.inl rfl)).2 h3, fun e => skip_start h1 (h2 _ (.inr ⟨e, rfl⟩)).1 (h2 _ (.inr ⟨e, rfl⟩)).2 h3⟩
  unfold oneTok at h
  simp only [] at h
  split at h
  · next hl =>
    obtain ⟨_, a, b, c', d, _⟩ := let_facts hl
    exact go a (fun q _ => ⟨fun x => b x.1, fun x => c' x.1⟩) d
  · split at h
    · next hl =>
      obtain ⟨_, _, _, _, a, b, c', d, _⟩ := dig_facts hl
      exact go a (fun q _ => ⟨fun x => b x.1, fun x => c' x.1⟩) d
    · unfold signL at h
      split at h
      · next hs =>
        simp only [Option.some.injEq, Prod.mk.injEq] at h
        -- two bytes
        have hr : ∃ x, r = [x] := by
          have h2 := h.2
          cases r with
          | nil =>
            simp only [signs2, List.mem_cons, List.not_mem_nil, or_false] at hs
            simp at hs
          | cons x y =>
            simp at h2
            exact ⟨x, by rw [h2]⟩
        obtain ⟨x, rfl⟩ := hr
        have hs' : [c, x] ∈ signs2 := hs
        have key : ∀ a b : UInt8, [a, b] ∈ signs2 → isBlk a = false ∧ a ≠ 40 ∧ a ≠ 47 ∧ a ≠ 123 := fun a b hm => by
          simp only [signs2, List.mem_cons, List.not_mem_nil, or_false, List.cons.injEq, and_true] at hm
          rcases hm with ⟨rfl, _⟩ | ⟨rfl, _⟩ | ⟨rfl, _⟩ | ⟨rfl, _⟩ | ⟨rfl, _⟩ | ⟨rfl, _⟩ <;> decide
        obtain ⟨a, b, c', d⟩ := key c x hs'
        exact go a (fun q _ => ⟨fun x => b x.1, fun x => c' x.1⟩) d
      · simp only [] at h
        split at h
        · next hs =>
          simp only [Option.some.injEq, Prod.mk.injEq] at h
          obtain ⟨_, rfl⟩ := h
          have key : c ∈ signs1 → isBlk c = false ∧ c ≠ 123 := all8 (P := fun c => c ∈ signs1 → isBlk c = false ∧ c ≠ 123) (by decide +kernel) c
          obtain ⟨a, d⟩ := key hs
          refine go a (fun q hq => ?_) d
          have hq' : q.head? ≠ some 42 ∧ q.head? ≠ some 47 := by
            rcases hq with rfl | ⟨e, rfl⟩
            · exact ⟨fun x => (by cases x), fun x => (by cases x)⟩
            · exact ⟨fun x => absurd (Option.some.inj x) (by decide), fun x => absurd (Option.some.inj x) (by decide)⟩
          exact ⟨fun x => hq'.1 x.2, fun x => hq'.2 x.2⟩
        · cases h
/-! lists of tokens -/
def joinB : List Bs → Bs
  | [] => []
  | s :: r => match r with
    | [] => s
    | _ :: _ => s ++ 32 :: joinB r
def showAll : List Tk → Option (List Bs)
  | [] => some []
  | t :: r => match showT t with
    | none => none
    | some s => match showAll r with
      | none => none
      | some x => some (s :: x)
theorem lexes_show : ∀ {ts : List Tk} {ss : List Bs}, showAll ts = some ss → ∃ ps, Lexes (joinB ss) ps ∧ ps.map (·.1) = ts ++ [endT]
  | [], ss, h => by
    have h' : some [] = some ss := h
    injection h' with h
    subst h
    exact ⟨[(endT, 0)], .fin rfl, rfl⟩
  | t :: r, ss, h => by
    unfold showAll at h
    split at h
    · cases h
    · next s hs =>
      split at h
      · cases h
      · next x hx =>
        injection h with h
        subst h
        have h1 := show_one hs
        obtain ⟨ps, hl, he⟩ := lexes_show hx
        cases s with
        | nil => cases h1
        | cons c q =>
          obtain ⟨k1, k2⟩ := one_start h1
          cases x with
          | nil =>
            have hr : r = [] := by
              cases r with
              | nil => rfl
              | cons a b =>
                unfold showAll at hx
                split at hx
                · cases hx
                · split at hx
                  · cases hx
                  · cases hx
            subst hr
            exact ⟨_, .step k1 h1 (.fin rfl), rfl⟩
          | cons y z =>
            have h2 := ext_one (d := 32) (by decide) (joinB (y :: z)) c q
            rw [h1] at h2
            refine ⟨_, .step (k2 _) h2 (hl.congr (by show skip (32 :: joinB (y :: z)) = _; rw [skip_cons, if_pos (by decide)])), ?_⟩
            simp only [List.map_cons, he]; rfl
/-! what comes from a text can be shown -/
theorem whole_word : ∀ {w : Bs}, (∀ c ∈ w, isWord c = true) → wordL w = w ∧ restL w = []
  | [], _ => ⟨rfl, rfl⟩
  | a :: r, h => by
    obtain ⟨x, y⟩ := whole_word (w := r) (fun c hc => h c (List.mem_cons_of_mem a hc))
    unfold wordL restL at *
    rw [List.takeWhile_cons, List.dropWhile_cons, if_pos (h a List.mem_cons_self), if_pos (h a List.mem_cons_self), x, y]
    exact ⟨rfl, rfl⟩
theorem word_show {w : Bs} (h2 : ∀ c ∈ w, isWord c = true) (h3 : ∃ c r, w = c :: r ∧ isLet c = true) (h4 : w.length ≤ 24) : showT (wordT (upL w)) = some (upL w) := by
  have hu : ∀ c ∈ upL w, isWord c = true := fun c hc => by
    obtain ⟨a, ha, rfl⟩ := List.mem_map.1 hc
    rw [up_isWord]; exact h2 a ha
  obtain ⟨hw, hr⟩ := whole_word hu
  obtain ⟨c, r, rfl, hc⟩ := h3
  have ho : oneTok (upL (c :: r)) = some (wordT (upL (c :: r)), []) := by
    rw [up_cons] at hw hr ⊢
    unfold oneTok
    simp only []
    rw [hw, hr, up_let, hc, if_pos rfl, if_neg (fun h => by cases h), ← up_cons, up_length, if_pos h4, upL_upL]
  unfold showT
  rw [if_neg (fun h => absurd (show (1 : Int) = 2 from h.1) (by decide)), if_pos ⟨.inl rfl, rfl, rfl, (by rw [up_cons]; exact fun h => by cases h), (by show (upL (c :: r)).length ≤ 24; rw [up_length]; exact h4)⟩]
  show (match oneTok (upL (c :: r)) with | some (x, []) => _ | _ => none) = _
  rw [ho]
  show (if _ then _ else _) = _
  rw [if_pos ⟨rfl, rfl⟩]; rfl
theorem sign_show {s : Bs} (h : s ∈ signs2 ∨ ∃ c, s = [c] ∧ c ∈ signs1) : showT (signT s) = some s := by
  rcases h with h | ⟨c, rfl, hc⟩
  · simp only [signs2, List.mem_cons, List.not_mem_nil, or_false] at h
    rcases h with rfl | rfl | rfl | rfl | rfl | rfl <;> decide
  · have : ∀ c : UInt8, c ∈ signs1 → showT (signT [c]) = some [c] := fun c hc => by
      simp only [signs1, List.mem_cons, List.not_mem_nil, or_false] at hc
      rcases hc with rfl | rfl | rfl | rfl | rfl | rfl | rfl | rfl | rfl | rfl | rfl | rfl | rfl | rfl | rfl | rfl <;> decide
    exact this c hc
theorem digs_le {base most : Nat} : ∀ {p : Bool} {n m : Nat} {l r : Bs}, digs base most p n l = some (m, r) → n ≤ most → m ≤ most
  | p, n, m, [], r, h, hn => by
    unfold digs at h
    split at h
    · simp only [Option.some.injEq, Prod.mk.injEq] at h
      omega
    · cases h
  | p, n, m, c :: t, r, h, hn => by
    unfold digs at h
    split at h
    · split at h
      · cases h
      · exact digs_le h (by omega)
    · split at h
      · exact digs_le h hn
      · split at h
        · split at h
          · cases h
          · simp only [Option.some.injEq, Prod.mk.injEq] at h
            omega
        · cases h
theorem num_show {n : Int} (h : -2147483648 ≤ n ∧ n ≤ 2147483648) : ∃ s, showT (numT n 0) = some s := by
  unfold showT
  rw [if_pos ⟨rfl, rfl⟩, if_pos (show (numT n 0).ty = 0 from rfl)]
  show ∃ s, (if n < 0 then (if -2147483648 ≤ n then _ else _) else if n ≤ 2147483648 then _ else _) = some s
  split
  · rw [if_pos h.1]; exact ⟨_, rfl⟩
  · rw [if_pos h.2]; exact ⟨_, rfl⟩
theorem time_show {n : Nat} (h : n < 2147483648) : ∃ s, showT (numT n 4) = some s := by
  unfold showT
  rw [if_pos ⟨rfl, rfl⟩, if_neg (by show ¬ (4 : Int) = 0; decide), if_pos (show (numT (n : Int) 4).ty = 4 from rfl)]
  show ∃ s, (if 0 ≤ (n : Int) ∧ (n : Int) < 2147483648 then _ else _) = some s
  rw [if_pos (by omega)]; exact ⟨_, rfl⟩
theorem typed_show {ty n : Int} (ht : ty = 1 ∨ ty = 2 ∨ ty = 3) (hf : fitL ty n = true) : ∃ s, showT (numT n ty) = some s := by
  unfold showT
  rw [if_pos ⟨rfl, rfl⟩, if_neg (by show ¬ ty = 0; omega), if_neg (by show ¬ ty = 4; omega), if_pos (show (numT n ty).ty = 1 ∨ (numT n ty).ty = 2 ∨ (numT n ty).ty = 3 from ht)]
  show ∃ s, (if fitL ty n = true then _ else _) = some s
  rw [if_pos hf]; exact ⟨_, rfl⟩
theorem time_lt : ∀ {f lo n m : Nat} {l r : Bs}, timeL f lo n l = some (m, r) → n < 2147483648 → m < 2147483648
  | 0, lo, n, m, l, r, h, _ => by cases h
  | f + 1, lo, n, m, [], r, h, hn => by
    unfold timeL at h
    simp only [] at h
    split at h
    · cases h
    · simp only [Option.some.injEq, Prod.mk.injEq] at h
      omega
  | f + 1, lo, n, m, c :: t, r, h, hn => by
    unfold timeL at h
    simp only [] at h
    split at h
    · split at h
      · cases h
      · split at h
        · cases h
        · split at h
          · cases h
          · exact time_lt h (by omega)
    · split at h
      · cases h
      · simp only [Option.some.injEq, Prod.mk.injEq] at h
        omega
theorem typedN_show {ty : Int} {l r : Bs} {t : Tk} (ht : ty = 1 ∨ ty = 2 ∨ ty = 3) (h : typedN ty l = some (t, r)) : ∃ s, showT t = some s := by
  unfold typedN at h
  split at h
  · split at h
    · cases h
    · split at h
      · next hf =>
        simp only [Option.some.injEq, Prod.mk.injEq] at h
        rw [← h.1]; exact typed_show ht hf
      · cases h
  · split at h
    · cases h
    · split at h
      · next hf =>
        simp only [Option.some.injEq, Prod.mk.injEq] at h
        rw [← h.1]; exact typed_show ht hf
      · cases h
theorem based_range {l r : Bs} {n : Int} (h : based l = some (n, r)) : -2147483648 ≤ n ∧ n ≤ 2147483648 := by
  have low : ∀ {m : Nat}, m ≤ 4294967295 → -2147483648 ≤ low32 m ∧ low32 m ≤ 2147483648 := fun {m} hm => by
    unfold low32; split <;> omega
  unfold based at h
  split at h
  · obtain ⟨a, h1, rfl⟩ := map_fst h; exact low (digs_le h1 (by decide))
  · split at h
    · obtain ⟨a, h1, rfl⟩ := map_fst h; exact low (digs_le h1 (by decide))
    · split at h
      · obtain ⟨a, h1, rfl⟩ := map_fst h; exact low (digs_le h1 (by decide))
      · obtain ⟨a, h1, rfl⟩ := map_fst (g := fun n : Nat => (n : Int)) h
        have := digs_le h1 (by decide)
        omega
theorem word_all (l : Bs) : ∀ c ∈ wordL l, isWord c = true := fun c hc => by
  unfold wordL at hc
  induction l with
  | nil => cases hc
  | cons a r ih =>
    rw [List.takeWhile_cons] at hc
    split at hc
    · next ha =>
      rcases List.mem_cons.1 hc with rfl | hc
      · exact ha
      · exact ih hc
    · cases hc
theorem one_show {l r : Bs} {t : Tk} (h : oneTok l = some (t, r)) : ∃ s, showT t = some s := by
  cases l with
  | nil => cases h
  | cons c q =>
    unfold oneTok at h
    simp only [] at h
    split at h
    · next hl =>
      split at h
      · unfold typedL at h
        split at h
        · obtain ⟨a, h1, rfl⟩ := map_fst (g := fun n : Nat => numT (n : Int) 4) h
          exact time_show (time_lt h1 (by decide))
        · split at h
          · exact typedN_show (.inl rfl) h
          · split at h
            · exact typedN_show (.inr (.inl rfl)) h
            · split at h
              · exact typedN_show (.inr (.inr rfl)) h
              · cases h
      · split at h
        · next hlen =>
          simp only [Option.some.injEq, Prod.mk.injEq] at h
          rw [← h.1]
          have hw : ∃ c' r', wordL (c :: q) = c' :: r' ∧ isLet c' = true := by
            unfold wordL
            rw [List.takeWhile_cons, if_pos (let_facts hl).2.2.2.2.2]
            exact ⟨c, _, rfl, hl⟩
          exact ⟨_, word_show (word_all _) hw hlen⟩
        · cases h
    · split at h
      · obtain ⟨a, h1, rfl⟩ := map_fst (g := fun n : Int => numT n 0) h
        exact num_show (based_range h1)
      · unfold signL at h
        split at h
        · next hs =>
          simp only [Option.some.injEq, Prod.mk.injEq] at h
          rw [← h.1]; exact ⟨_, sign_show (.inl hs)⟩
        · simp only [] at h
          split at h
          · next hs =>
            simp only [Option.some.injEq, Prod.mk.injEq] at h
            rw [← h.1]; exact ⟨_, sign_show (.inr ⟨_, rfl, hs⟩)⟩
          · cases h
theorem all_show {l : Bs} {ps : List (Tk × Nat)} (h : Lexes l ps) : ∃ ss, showAll (ps.dropLast.map (·.1)) = some ss := by
  induction h with
  | fin hs => exact ⟨[], rfl⟩
  | @step l r r' c t ts hs h1 h2 ih =>
    obtain ⟨ss, he⟩ := ih
    obtain ⟨s, hs⟩ := one_show h1
    obtain ⟨ws, rfl⟩ := h2.last
    rw [List.dropLast_concat] at he
    rw [← List.cons_append, List.dropLast_concat, List.map_cons]
    refine ⟨s :: ss, ?_⟩
    unfold showAll
    simp only []
    rw [hs, he]
end Go.Proofs.YtfcnbiikjopajaaDoor
