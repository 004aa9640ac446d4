/- There and back: what is shown has the same tokens; a text's tokens can be shown. | A number is the same by whatever base it is written, with a _ between its digits or not. -/
import Derived.Test.YtldjiieckddhkaaGreatDoorShow
namespace Go.Proofs.YtldjiieckddhkaaGreatDoor
theorem skip_start {c : UInt8} {r : Bs} (h1 : isBlk c = false) (h2 : ¬ (c = 40 ∧ r.head? = some 42)) (h3 : ¬ (c = 47 ∧ r.head? = some 47)) (h4 : c ≠ 123) : skip (c :: r) = .ok (c :: r) := by
  rw [skip_cons, if_neg (by rw [h1]; decide), if_neg h2, if_neg h3, if_neg h4]
/-- a text that is one token, whole: nothing of it is skipped, whatever stands behind a blank -/
theorem one_start {c : UInt8} {r : Bs} {t : Tk} (h : oneTok (c :: r) = some (t, [])) : skip (c :: r) = .ok (c :: r) ∧ ∀ e : Bs, skip (c :: (r ++ 32 :: e)) = .ok (c :: (r ++ 32 :: e)) := by
  have go : isBlk c = false → (∀ q : Bs, (q = r ∨ ∃ e, q = r ++ 32 :: e) → ¬ (c = 40 ∧ q.head? = some 42) ∧ ¬ (c = 47 ∧ q.head? = some 47)) → c ≠ 123 → skip (c :: r) = .ok (c :: r) ∧ ∀ e : Bs, skip (c :: (r ++ 32 :: e)) = .ok (c :: (r ++ 32 :: e)) := fun h1 h2 h3 =>
    ⟨skip_start h1 (h2 r (.inl rfl)).1 (h2 r (.inl rfl)).2 h3, fun e => skip_start h1 (h2 _ (.inr ⟨e, rfl⟩)).1 (h2 _ (.inr ⟨e, rfl⟩)).2 h3⟩
  unfold oneTok at h
  simp only [] at h
  split at h
  · next hl =>
    obtain ⟨_, a, b, c', d, _⟩ := let_facts hl
    exact go a (fun q _ => ⟨fun x => b x.1, fun x => c' x.1⟩) d
  · split at h
    · next hl =>
      obtain ⟨_, _, _, _, a, b, c', d, _⟩ := dig_facts hl
      exact go a (fun q _ => ⟨fun x => b x.1, fun x => c' x.1⟩) d
    · unfold signL at h
      split at h
      · next hs =>
        simp only [Option.some.injEq, Prod.mk.injEq] at h
        -- two bytes
        have hr : ∃ x, r = [x] := by
          have h2 := h.2
          cases r with
          | nil =>
            simp only [signs2, List.mem_cons, List.not_mem_nil, or_false] at hs
            simp at hs
          | cons x y =>
            simp at h2
            exact ⟨x, by rw [h2]⟩
        obtain ⟨x, rfl⟩ := hr
        have hs' : [c, x] ∈ signs2 := hs
        have key : ∀ a b : UInt8, [a, b] ∈ signs2 → isBlk a = false ∧ a ≠ 40 ∧ a ≠ 47 ∧ a ≠ 123 := fun a b hm => by
          simp only [signs2, List.mem_cons, List.not_mem_nil, or_false, List.cons.injEq, and_true] at hm
          rcases hm with ⟨rfl, _⟩ | ⟨rfl, _⟩ | ⟨rfl, _⟩ | ⟨rfl, _⟩ | ⟨rfl, _⟩ | ⟨rfl, _⟩ <;> decide
        obtain ⟨a, b, c', d⟩ := key c x hs'
        exact go a (fun q _ => ⟨fun x => b x.1, fun x => c' x.1⟩) d
      · simp only [] at h
        split at h
        · next hs =>
          simp only [Option.some.injEq, Prod.mk.injEq] at h
          obtain ⟨_, rfl⟩ := h
          have key : c ∈ signs1 → isBlk c = false ∧ c ≠ 123 := all8 (P := fun c => c ∈ signs1 → isBlk c = false ∧ c ≠ 123) (by decide +kernel) c
          obtain ⟨a, d⟩ := key hs
          refine go a (fun q hq => ?_) d
          have hq' : q.head? ≠ some 42 ∧ q.head? ≠ some 47 := by
            rcases hq with rfl | ⟨e, rfl⟩
            · exact ⟨fun x => (by cases x), fun x => (by cases x)⟩
            · exact ⟨fun x => absurd (Option.some.inj x) (by decide), fun x => absurd (Option.some.inj x) (by decide)⟩
          exact ⟨fun x => hq'.1 x.2, fun x => hq'.2 x.2⟩
        · cases h
/-! lists of tokens -/
def joinB : List Bs → Bs
  | [] => []
  | s :: r => match r with
    | [] => s
    | _ :: _ => s ++ 32 :: joinB r
def showAll : List Tk → Option (List Bs)
  | [] => some []
  | t :: r => match showT t with
    | none => none
    | some s => match showAll r with
      | none => none
      | some x => some (s :: x)
theorem lexes_show : ∀ {ts : List Tk} {ss : List Bs}, showAll ts = some ss → ∃ ps, Lexes (joinB ss) ps ∧ ps.map (·.1) = ts ++ [endT]
  | [], ss, h => by
    have h' : some [] = some ss := h
    injection h' with h
    subst h
    exact ⟨[(endT, 0)], .fin rfl, rfl⟩
  | t :: r, ss, h => by
    unfold showAll at h
    split at h
    · cases h
    · next s hs =>
      split at h
      · cases h
      · next x hx =>
        injection h with h
        subst h
        have h1 := show_one hs
        obtain ⟨ps, hl, he⟩ := lexes_show hx
        cases s with
        | nil => cases h1
        | cons c q =>
          obtain ⟨k1, k2⟩ := one_start h1
          cases x with
          | nil =>
            have hr : r = [] := by
              cases r with
              | nil => rfl
              | cons a b =>
                unfold showAll at hx
                split at hx
                · cases hx
                · split at hx
                  · cases hx
                  · cases hx
            subst hr
            exact ⟨_, .step k1 h1 (.fin rfl), rfl⟩
          | cons y z =>
            have h2 := ext_one (d := 32) (by decide) (joinB (y :: z)) c q
            rw [h1] at h2
            refine ⟨_, .step (k2 _) h2 (hl.congr (by show skip (32 :: joinB (y :: z)) = _; rw [skip_cons, if_pos (by decide)])), ?_⟩
            simp only [List.map_cons, he]; rfl
/-! what comes from a text can be shown -/
theorem whole_word : ∀ {w : Bs}, (∀ c ∈ w, isWord c = true) → wordL w = w ∧ restL w = []
  | [], _ => ⟨rfl, rfl⟩
  | a :: r, h => by
    obtain ⟨x, y⟩ := whole_word (w := r) (fun c hc => h c (List.mem_cons_of_mem a hc))
    unfold wordL restL at *
    rw [List.takeWhile_cons, List.dropWhile_cons, if_pos (h a List.mem_cons_self), if_pos (h a List.mem_cons_self), x, y]
    exact ⟨rfl, rfl⟩
theorem word_show {w : Bs} (h2 : ∀ c ∈ w, isWord c = true) (h3 : ∃ c r, w = c :: r ∧ isLet c = true) (h4 : w.length ≤ 24) : showT (wordT (upL w)) = some (upL w) := by
  have hu : ∀ c ∈ upL w, isWord c = true := fun c hc => by
    obtain ⟨a, ha, rfl⟩ := List.mem_map.1 hc
    rw [up_isWord]; exact h2 a ha
  obtain ⟨hw, hr⟩ := whole_word hu
  obtain ⟨c, r, rfl, hc⟩ := h3
  have ho : oneTok (upL (c :: r)) = some (wordT (upL (c :: r)), []) := by
    rw [up_cons] at hw hr ⊢
    unfold oneTok
    simp only []
    rw [hw, hr, up_let, hc, if_pos rfl, if_neg (fun h => by cases h), ← up_cons, up_length, if_pos h4, upL_upL]
  unfold showT
  rw [if_neg (fun h => absurd (show (1 : Int) = 2 from h.1) (by decide)), if_pos ⟨.inl rfl, rfl, rfl, (by rw [up_cons]; exact fun h => by cases h), (by show (upL (c :: r)).length ≤ 24; rw [up_length]; exact h4)⟩]
  show (match oneTok (upL (c :: r)) with | some (x, []) => _ | _ => none) = _
  rw [ho]
  show (if _ then _ else _) = _
  rw [if_pos ⟨rfl, rfl⟩]; rfl
theorem sign_show {s : Bs} (h : s ∈ signs2 ∨ ∃ c, s = [c] ∧ c ∈ signs1) : showT (signT s) = some s := by
  rcases h with h | ⟨c, rfl, hc⟩
  · simp only [signs2, List.mem_cons, List.not_mem_nil, or_false] at h
    rcases h with rfl | rfl | rfl | rfl | rfl | rfl <;> decide
  · have : ∀ c : UInt8, c ∈ signs1 → showT (signT [c]) = some [c] := fun c hc => by
      simp only [signs1, List.mem_cons, List.not_mem_nil, or_false] at hc
      rcases hc with rfl | rfl | rfl | rfl | rfl | rfl | rfl | rfl | rfl | rfl | rfl | rfl | rfl | rfl | rfl | rfl <;> decide
    exact this c hc
theorem digs_le {base most : Nat} : ∀ {p : Bool} {n m : Nat} {l r : Bs}, digs base most p n l = some (m, r) → n ≤ most → m ≤ most
  | p, n, m, [], r, h, hn => by
    unfold digs at h
    split at h
    · simp only [Option.some.injEq, Prod.mk.injEq] at h
      omega
    · cases h
  | p, n, m, c :: t, r, h, hn => by
    unfold digs at h
    split at h
    · split at h
      · cases h
      · exact digs_le h (by omega)
    · split at h
      · exact digs_le h hn
      · split at h
        · split at h
          · cases h
          · simp only [Option.some.injEq, Prod.mk.injEq] at h
            omega
        · cases h
theorem num_show {n : Int} (h : -2147483648 ≤ n ∧ n ≤ 2147483648) : ∃ s, showT (numT n 0) = some s := by
  unfold showT
  rw [if_pos ⟨rfl, rfl⟩, if_pos (show (numT n 0).ty = 0 from rfl)]
  show ∃ s, (if n < 0 then (if -2147483648 ≤ n then _ else _) else if n ≤ 2147483648 then _ else _) = some s
  split
  · rw [if_pos h.1]; exact ⟨_, rfl⟩
  · rw [if_pos h.2]; exact ⟨_, rfl⟩
theorem time_show {n : Nat} (h : n < 2147483648) : ∃ s, showT (numT n 4) = some s := by
  unfold showT
  rw [if_pos ⟨rfl, rfl⟩, if_neg (by show ¬ (4 : Int) = 0; decide), if_pos (show (numT (n : Int) 4).ty = 4 from rfl)]
  show ∃ s, (if 0 ≤ (n : Int) ∧ (n : Int) < 2147483648 then _ else _) = some s
  rw [if_pos (by omega)]; exact ⟨_, rfl⟩
theorem typed_show {ty n : Int} (ht : ty = 1 ∨ ty = 2 ∨ ty = 3) (hf : fitL ty n = true) : ∃ s, showT (numT n ty) = some s := by
  unfold showT
  rw [if_pos ⟨rfl, rfl⟩, if_neg (by show ¬ ty = 0; omega), if_neg (by show ¬ ty = 4; omega), if_pos (show (numT n ty).ty = 1 ∨ (numT n ty).ty = 2 ∨ (numT n ty).ty = 3 from ht)]
  show ∃ s, (if fitL ty n = true then _ else _) = some s
  rw [if_pos hf]; exact ⟨_, rfl⟩
theorem time_lt : ∀ {f lo n m : Nat} {l r : Bs}, timeL f lo n l = some (m, r) → n < 2147483648 → m < 2147483648
  | 0, lo, n, m, l, r, h, _ => by cases h
  | f + 1, lo, n, m, [], r, h, hn => by
    unfold timeL at h
    simp only [] at h
    split at h
    · cases h
    · simp only [Option.some.injEq, Prod.mk.injEq] at h
      omega
  | f + 1, lo, n, m, c :: t, r, h, hn => by
    unfold timeL at h
    simp only [] at h
    split at h
    · split at h
      · cases h
      · split at h
        · cases h
        · split at h
          · cases h
          · exact time_lt h (by omega)
    · split at h
      · cases h
      · simp only [Option.some.injEq, Prod.mk.injEq] at h
        omega
theorem typedN_show {ty : Int} {l r : Bs} {t : Tk} (ht : ty = 1 ∨ ty = 2 ∨ ty = 3) (h : typedN ty l = some (t, r)) : ∃ s, showT t = some s := by
  unfold typedN at h
  split at h
  · split at h
    · cases h
    · split at h
      · next hf =>
        simp only [Option.some.injEq, Prod.mk.injEq] at h
        rw [← h.1]; exact typed_show ht hf
      · cases h
  · split at h
    · cases h
    · split at h
      · next hf =>
        simp only [Option.some.injEq, Prod.mk.injEq] at h
        rw [← h.1]; exact typed_show ht hf
      · cases h
theorem based_range {l r : Bs} {n : Int} (h : based l = some (n, r)) : -2147483648 ≤ n ∧ n ≤ 2147483648 := by
  have low : ∀ {m : Nat}, m ≤ 4294967295 → -2147483648 ≤ low32 m ∧ low32 m ≤ 2147483648 := fun {m} hm => by
    unfold low32; split <;> omega
  unfold based at h
  split at h
  · obtain ⟨a, h1, rfl⟩ := map_fst h; exact low (digs_le h1 (by decide))
  · split at h
    · obtain ⟨a, h1, rfl⟩ := map_fst h; exact low (digs_le h1 (by decide))
    · split at h
      · obtain ⟨a, h1, rfl⟩ := map_fst h; exact low (digs_le h1 (by decide))
      · obtain ⟨a, h1, rfl⟩ := map_fst (g := fun n : Nat => (n : Int)) h
        have := digs_le h1 (by decide)
        omega
theorem word_all (l : Bs) : ∀ c ∈ wordL l, isWord c = true := fun c hc => by
  unfold wordL at hc
  induction l with
  | nil => cases hc
  | cons a r ih =>
    rw [List.takeWhile_cons] at hc
    split at hc
    · next ha =>
      rcases List.mem_cons.1 hc with rfl | hc
      · exact ha
      · exact ih hc
    · cases hc
theorem one_show {l r : Bs} {t : Tk} (h : oneTok l = some (t, r)) : ∃ s, showT t = some s := by
  cases l with
  | nil => cases h
  | cons c q =>
    unfold oneTok at h
    simp only [] at h
    split at h
    · next hl =>
      split at h
      · unfold typedL at h
        split at h
        · obtain ⟨a, h1, rfl⟩ := map_fst (g := fun n : Nat => numT (n : Int) 4) h
          exact time_show (time_lt h1 (by decide))
        · split at h
          · exact typedN_show (.inl rfl) h
          · split at h
            · exact typedN_show (.inr (.inl rfl)) h
            · split at h
              · exact typedN_show (.inr (.inr rfl)) h
              · cases h
      · split at h
        · next hlen =>
          simp only [Option.some.injEq, Prod.mk.injEq] at h
          rw [← h.1]
          have hw : ∃ c' r', wordL (c :: q) = c' :: r' ∧ isLet c' = true := by
            unfold wordL
            rw [List.takeWhile_cons, if_pos (let_facts hl).2.2.2.2.2]
            exact ⟨c, _, rfl, hl⟩
          exact ⟨_, word_show (word_all _) hw hlen⟩
        · cases h
    · split at h
      · obtain ⟨a, h1, rfl⟩ := map_fst (g := fun n : Int => numT n 0) h
        exact num_show (based_range h1)
      · unfold signL at h
        split at h
        · next hs =>
          simp only [Option.some.injEq, Prod.mk.injEq] at h
          rw [← h.1]; exact ⟨_, sign_show (.inl hs)⟩
        · simp only [] at h
          split at h
          · next hs =>
            simp only [Option.some.injEq, Prod.mk.injEq] at h
            rw [← h.1]; exact ⟨_, sign_show (.inr ⟨_, rfl, hs⟩)⟩
          · cases h
theorem all_show {l : Bs} {ps : List (Tk × Nat)} (h : Lexes l ps) : ∃ ss, showAll (ps.dropLast.map (·.1)) = some ss := by
  induction h with
  | fin hs => exact ⟨[], rfl⟩
  | @step l r r' c t ts hs h1 h2 ih =>
    obtain ⟨ss, he⟩ := ih
    obtain ⟨s, hs⟩ := one_show h1
    obtain ⟨ws, rfl⟩ := h2.last
    rw [List.dropLast_concat] at he
    rw [← List.cons_append, List.dropLast_concat, List.map_cons]
    refine ⟨s :: ss, ?_⟩
    unfold showAll
    simp only []
    rw [hs, he]
end Go.Proofs.YtldjiieckddhkaaGreatDoor
namespace Go.Proofs.YtldjiieckddhkaaGreatDoor
/-- pieces, a blank behind each -/
def blanks : List Bs → Bs
  | [] => []
  | s :: r => s ++ 32 :: blanks r
/-- each piece is one token, whole -/
inductive Each : List Bs → List Tk → Prop
  | nil : Each [] []
  | cons {s : Bs} {t : Tk} {ss : List Bs} {ts : List Tk} (h : oneTok s = some (t, [])) (r : Each ss ts) : Each (s :: ss) (t :: ts)
theorem lexes_pieces : ∀ {ss : List Bs} {ts : List Tk}, Each ss ts → ∃ ps, Lexes (blanks ss) ps ∧ ps.map (·.1) = ts ++ [endT]
  | _, _, .nil => ⟨[(endT, 0)], .fin rfl, rfl⟩
  | s :: ss, t :: ts, .cons h1 h => by
    obtain ⟨ps, hl, he⟩ := lexes_pieces h
    cases s with
    | nil => cases h1
    | cons c q =>
      obtain ⟨k1, k2⟩ := one_start h1
      have h2 := ext_one (d := 32) (by decide) (blanks ss) c q
      rw [h1] at h2
      refine ⟨_, .step (k2 _) h2 (hl.congr (by show skip (32 :: blanks ss) = _; rw [skip_cons, if_pos (by decide)])), ?_⟩
      simp only [List.map_cons, he]; rfl
def rep (base n : Nat) : Bs := repF chL base 40 n
def repP (base n : Nat) (parted : Bool) : Bs := if parted then partL (rep base n) else rep base n
theorem rep_all {base n : Nat} (hb : 2 ≤ base) (hb16 : base ≤ 16) (hn : n < 2147483648) : rep base n ≠ [] ∧ (∀ c ∈ rep base n, worth c < base) ∧ val base 0 (rep base n) = n := by
  have hp : n < base ^ 40 := by
    have h1 : (2 : Nat) ^ 40 ≤ base ^ 40 := Nat.pow_le_pow_left hb 40
    have h2 : (2 : Nat) ^ 40 = 1099511627776 := by decide
    omega
  obtain ⟨a, b, c⟩ := rep_facts (ch := chL) (base := base) hb (fun k hk => (worth_chL k (by omega)).1) 40 n hp (by decide)
  refine ⟨a, fun x hx => ?_, c⟩
  obtain ⟨k, hk, rfl⟩ := b x hx
  rw [(worth_chL k (by omega)).1]; exact hk
theorem digs_rep {base n most : Nat} (hb : 2 ≤ base) (hb16 : base ≤ 16) (hn : n < 2147483648) (hm : 2147483647 ≤ most) (parted : Bool) : digs base most false 0 (repP base n parted) = some (n, []) := by
  obtain ⟨a, b, c⟩ := rep_all hb hb16 hn
  cases parted with
  | false =>
    have := digs_run (most := most) (r := []) (by omega : 1 ≤ base) (rep base n) false 0 a b (by rw [c]; omega)
    rw [List.append_nil, c] at this
    exact this
  | true =>
    have := digs_part (most := most) (r := []) (by omega : 1 ≤ base) hb16 (rep base n) false 0 a b (by rw [c]; omega)
    rw [List.append_nil, c] at this
    exact this
theorem part_mem : ∀ {ds : Bs} {c : UInt8}, c ∈ partL ds → c ∈ ds ∨ c = 95
  | [], c, h => by cases h
  | [x], c, h => .inl h
  | x :: y :: r, c, h => by
    have h' : c ∈ x :: 95 :: partL (y :: r) := h
    rcases List.mem_cons.1 h' with rfl | h'
    · exact .inl List.mem_cons_self
    · rcases List.mem_cons.1 h' with rfl | h'
      · exact .inr rfl
      · exact (part_mem h').imp (List.mem_cons_of_mem x) id
theorem part_head (c : UInt8) (r : Bs) : ∃ q, partL (c :: r) = c :: q := by
  cases r with
  | nil => exact ⟨[], rfl⟩
  | cons a b => exact ⟨_, rfl⟩
theorem dec_dig {c : UInt8} (h : worth c < 10) : isDig c = true ∧ c ≠ 35 := all8 (P := fun c => worth c < 10 → isDig c = true ∧ c ≠ 35) (by decide +kernel) c h
theorem repP10 {n : Nat} (hn : n < 2147483648) (parted : Bool) : (∃ c q, repP 10 n parted = c :: q ∧ isDig c = true) ∧ ∀ c ∈ repP 10 n parted, c ≠ 35 := by
  obtain ⟨a, b, _⟩ := rep_all (base := 10) (by decide) (by decide) hn
  cases hr : rep 10 n with
  | nil => exact absurd hr a
  | cons c q =>
    have hc := dec_dig (b c (by rw [hr]; exact List.mem_cons_self))
    cases parted with
    | false => exact ⟨⟨c, q, hr, hc.1⟩, fun x hx => (dec_dig (b x hx)).2⟩
    | true =>
      obtain ⟨q', hq⟩ := part_head c q
      refine ⟨⟨c, q', by show partL (rep 10 n) = _; rw [hr, hq], hc.1⟩, fun x hx => ?_⟩
      rcases part_mem (show x ∈ partL (rep 10 n) from hx) with h | rfl
      · exact (dec_dig (b x h)).2
      · decide
theorem one_rep10 {n : Nat} (hn : n < 2147483648) (parted : Bool) : oneTok (repP 10 n parted) = some (numT n 0, []) := by
  obtain ⟨⟨c, q, hc, hd⟩, h35⟩ := repP10 hn parted
  have hdg := digs_rep (most := 2147483648) (base := 10) (by decide) (by decide) hn (by decide) parted
  have no35 : ∀ {k : Nat}, (35 : UInt8) ∉ (repP 10 n parted).take k := fun hm => h35 _ (List.mem_of_mem_take hm) rfl
  have hb : based (repP 10 n parted) = some ((n : Int), []) := by
    unfold based
    rw [if_neg (fun e => no35 (k := 2) (by rw [e]; decide)), if_neg (fun e => no35 (k := 2) (by rw [e]; decide)), if_neg (fun e => no35 (k := 3) (by rw [e]; decide)), hdg]; rfl
  rw [hc] at hb ⊢
  unfold oneTok
  simp only []
  rw [(dig_facts hd).1, hd, hb]; rfl
theorem one_rep2 {n : Nat} (hn : n < 2147483648) (parted : Bool) : oneTok ([50, 35] ++ repP 2 n parted) = some (numT n 0, []) := by
  have hdg := digs_rep (most := 4294967295) (base := 2) (by decide) (by decide) hn (by decide) parted
  have hb : based ([50, 35] ++ repP 2 n parted) = (digs 2 4294967295 false 0 (repP 2 n parted)).map fun x => (low32 x.1, x.2) := rfl
  show (based ([50, 35] ++ repP 2 n parted)).map (fun x => (numT x.1 0, x.2)) = _
  rw [hb, hdg]
  show some (numT (low32 n) 0, []) = _
  unfold low32; rw [if_neg (by omega)]
theorem one_rep8 {n : Nat} (hn : n < 2147483648) (parted : Bool) : oneTok ([56, 35] ++ repP 8 n parted) = some (numT n 0, []) := by
  have hdg := digs_rep (most := 4294967295) (base := 8) (by decide) (by decide) hn (by decide) parted
  have hb : based ([56, 35] ++ repP 8 n parted) = (digs 8 4294967295 false 0 (repP 8 n parted)).map fun x => (low32 x.1, x.2) := rfl
  show (based ([56, 35] ++ repP 8 n parted)).map (fun x => (numT x.1 0, x.2)) = _
  rw [hb, hdg]
  show some (numT (low32 n) 0, []) = _
  unfold low32; rw [if_neg (by omega)]
theorem one_rep16 {n : Nat} (hn : n < 2147483648) (parted : Bool) : oneTok ([49, 54, 35] ++ repP 16 n parted) = some (numT n 0, []) := by
  have hdg := digs_rep (most := 4294967295) (base := 16) (by decide) (by decide) hn (by decide) parted
  have hb : based ([49, 54, 35] ++ repP 16 n parted) = (digs 16 4294967295 false 0 (repP 16 n parted)).map fun x => (low32 x.1, x.2) := rfl
  show (based ([49, 54, 35] ++ repP 16 n parted)).map (fun x => (numT x.1 0, x.2)) = _
  rw [hb, hdg]
  show some (numT (low32 n) 0, []) = _
  unfold low32; rw [if_neg (by omega)]
theorem typedN_rep {ty : Int} {n : Nat} (hn : n < 2147483648) (parted : Bool) : typedN ty (repP 10 n parted) = if fitL ty n then some (numT n ty, []) else none := by
  obtain ⟨⟨c, q, hc, hd⟩, _⟩ := repP10 hn parted
  have hdg := digs_rep (most := 2147483648) (base := 10) (by decide) (by decide) hn (by decide) parted
  unfold typedN
  rw [if_neg (by rw [hc]; intro h; exact (dig_facts hd).2.2.1 (Option.some.inj h)), hdg]
theorem one_repD {n : Nat} (hn : n < 2147483648) (parted : Bool) : oneTok ([68, 73, 78, 84, 35] ++ repP 10 n parted) = some (numT n 3, []) := by
  have h := typedN_rep (ty := 3) hn parted
  have hf : fitL 3 (n : Int) = true := by
    unfold fitL
    rw [if_neg (by decide), if_neg (by decide), decide_eq_true (by omega), decide_eq_true (by omega)]; rfl
  rw [hf, if_pos rfl] at h
  exact h
theorem one_repI {n : Nat} (hn : n < 2147483648) : oneTok ([73, 78, 84, 35] ++ repP 10 n false) = if n < 32768 then some (numT n 2, []) else none := by
  have h := typedN_rep (ty := 2) hn false
  have hf : fitL 2 (n : Int) = decide (n < 32768) := by
    unfold fitL
    rw [if_neg (by decide), if_pos rfl, decide_eq_true (show (-32768 : Int) ≤ n by omega), Bool.true_and]
    exact decide_eq_decide.2 (by omega)
  rw [hf] at h
  simp only [decide_eq_true_eq] at h
  exact h
/-- the law's text: ten numbers, a blank behind each -/
def numPieces (n : Nat) : List Bs :=
  [repP 10 n false, [50, 35] ++ repP 2 n false, [56, 35] ++ repP 8 n false, [49, 54, 35] ++ repP 16 n false, [68, 73, 78, 84, 35] ++ repP 10 n false,
   repP 10 n true, [50, 35] ++ repP 2 n true, [56, 35] ++ repP 8 n true, [49, 54, 35] ++ repP 16 n true, [68, 73, 78, 84, 35] ++ repP 10 n true]
def numToks (n : Nat) : List Tk := [numT n 0, numT n 0, numT n 0, numT n 0, numT n 3, numT n 0, numT n 0, numT n 0, numT n 0, numT n 3]
theorem lexes_nums {n : Nat} (hn : n < 2147483648) : ∃ ps, Lexes (blanks (numPieces n)) ps ∧ ps.map (·.1) = numToks n ++ [endT] :=
  lexes_pieces (.cons (one_rep10 hn false) (.cons (one_rep2 hn false) (.cons (one_rep8 hn false) (.cons (one_rep16 hn false) (.cons (one_repD hn false)
    (.cons (one_rep10 hn true) (.cons (one_rep2 hn true) (.cons (one_rep8 hn true) (.cons (one_rep16 hn true) (.cons (one_repD hn true) .nil))))))))))
/-- digits of a base: at most so many -/
theorem repF_len (ch : Nat → UInt8) (base : Nat) : ∀ (f n : Nat), (repF ch base f n).length ≤ f
  | 0, n => Nat.le_refl _
  | f + 1, n => by
    unfold repF
    split
    · simp
    · have := repF_len ch base f (n / base)
      simp; omega
theorem part_len : ∀ ds : Bs, (partL ds).length ≤ 2 * ds.length
  | [] => Nat.le_refl _
  | [x] => by show 1 ≤ 2 * 1; omega
  | x :: y :: r => by
    have h := part_len (y :: r)
    show (x :: 95 :: partL (y :: r)).length ≤ _
    simp only [List.length_cons] at h ⊢
    omega
theorem repP_len (base n : Nat) (parted : Bool) : (repP base n parted).length ≤ 80 := by
  have h := repF_len chL base 40 n
  cases parted with
  | false => show (rep base n).length ≤ 80; unfold rep; omega
  | true =>
    have := part_len (rep base n)
    show (partL (rep base n)).length ≤ 80
    unfold rep at *; omega
theorem nums_len (n : Nat) : (blanks (numPieces n)).length ≤ 65536 := by
  have h := fun b p => repP_len b n p
  simp only [numPieces, blanks, List.length_append, List.length_cons, List.length_nil]
  have := h 10 false; have := h 2 false; have := h 8 false; have := h 16 false; have := h 10 true; have := h 2 true; have := h 8 true; have := h 16 true
  omega
theorem toks_nums {n : Nat} (hn : n < 2147483648) : ∃ ps, toks (blanks (numPieces n)) = .ok ps ∧ ps.map (·.1) = numToks n ++ [endT] := by
  obtain ⟨ps, h1, h2⟩ := lexes_nums hn
  refine ⟨ps, lexes_toks h1 (nums_len n) ?_, h2⟩
  have := congrArg List.length h2
  simp only [List.length_map] at this
  rw [this]; show 11 ≤ 4096; decide
theorem toks_int {n : Nat} (hn : n < 2147483648) : if n < 32768 then ∃ ps, toks ([73, 78, 84, 35] ++ repP 10 n false) = .ok ps else toks ([73, 78, 84, 35] ++ repP 10 n false) = .error (([73, 78, 84, 35] ++ repP 10 n false).length, 50) := by
  have h := one_repI hn
  have hlen : ([73, 78, 84, 35] ++ repP 10 n false : Bs).length ≤ 65536 := by
    have := repP_len 10 n false
    simp; omega
  have hs : skip ([73, 78, 84, 35] ++ repP 10 n false) = .ok ([73, 78, 84, 35] ++ repP 10 n false) := skip_start (by decide) (fun x => absurd x.1 (by decide)) (fun x => absurd x.1 (by decide)) (by decide)
  split
  · next hl =>
    rw [if_pos hl] at h
    exact ⟨_, lexes_toks (.step hs h (.fin rfl)) hlen (by show 2 ≤ 4096; decide)⟩
  · next hl =>
    rw [if_neg hl] at h
    unfold toks
    rw [if_neg (by omega)]
    unfold toksF
    rw [hs]
    simp only []
    rw [if_neg (by decide)]
    show (match oneTok ([73, 78, 84, 35] ++ repP 10 n false) with | none => _ | some (t, r') => _) = _
    rw [h]; rfl
end Go.Proofs.YtldjiieckddhkaaGreatDoor
