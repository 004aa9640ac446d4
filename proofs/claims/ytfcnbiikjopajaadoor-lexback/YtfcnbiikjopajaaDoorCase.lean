/- Capitals or not, the tokens are the same. -/
import Derived.Test.YtfcnbiikjopajaaDoorLex
namespace Go.Proofs.YtfcnbiikjopajaaDoor
theorem all8 {P : UInt8 → Prop} (h : ∀ n : Fin 256, P (UInt8.ofNat n.val)) (c : UInt8) : P c := by
  have := h ⟨c.toNat, c.toNat_lt⟩
  simpa using this
theorem up_let (c : UInt8) : isLet (upC c) = isLet c := all8 (P := fun c => isLet (upC c) = isLet c) (by decide +kernel) c
theorem up_dig (c : UInt8) : isDig (upC c) = isDig c := all8 (P := fun c => isDig (upC c) = isDig c) (by decide +kernel) c
theorem up_blk (c : UInt8) : isBlk (upC c) = isBlk c := all8 (P := fun c => isBlk (upC c) = isBlk c) (by decide +kernel) c
theorem up_worth (c : UInt8) : worth (upC c) = worth c := all8 (P := fun c => worth (upC c) = worth c) (by decide +kernel) c
theorem up_up (c : UInt8) : upC (upC c) = upC c := all8 (P := fun c => upC (upC c) = upC c) (by decide +kernel) c
theorem upL_upL (l : Bs) : upL (upL l) = upL l := by unfold upL; rw [List.map_map]; congr 1; funext c; exact up_up c
/-- a byte that is no letter is met just by itself -/
theorem up_eq {k : UInt8} (hk : ¬ (97 ≤ k ∧ k ≤ 122) ∧ ¬ (65 ≤ k ∧ k ≤ 90)) (c : UInt8) : (upC c = k) = (c = k) := by
  have h1 : 97 ≤ c ∧ c ≤ 122 → 65 ≤ upC c ∧ upC c ≤ 90 := all8 (P := fun c => 97 ≤ c ∧ c ≤ 122 → 65 ≤ upC c ∧ upC c ≤ 90) (by decide +kernel) c
  by_cases h : 97 ≤ c ∧ c ≤ 122
  · refine propext ⟨fun e => ?_, fun e => ?_⟩
    · rw [e] at h1; exact absurd (h1 h) hk.2
    · rw [e] at h; exact absurd h hk.1
  · have e : upC c = c := by unfold upC; rw [if_neg h]
    rw [e]
theorem up_head {k : UInt8} (hk : ¬ (97 ≤ k ∧ k ≤ 122) ∧ ¬ (65 ≤ k ∧ k ≤ 90)) (l : Bs) : ((upL l).head? = some k) = (l.head? = some k) := by
  cases l with
  | nil => rfl
  | cons a r =>
    show (some (upC a) = some k) = (some a = some k)
    rw [Option.some.injEq, Option.some.injEq, up_eq hk]
theorem up_tail (l : Bs) : (upL l).tail = upL l.tail := by cases l <;> rfl
theorem up_length (l : Bs) : (upL l).length = l.length := List.length_map _
theorem up_nil : upL [] = [] := rfl
theorem up_cons (c : UInt8) (r : Bs) : upL (c :: r) = upC c :: upL r := rfl
theorem up_note : ∀ l : Bs, pastNote (upL l) = (pastNote l).map upL
  | [] => rfl
  | a :: r => by
    rw [up_cons]
    unfold pastNote
    simp only [up_eq (k := 42) (by decide), up_head (k := 41) (by decide), up_tail, up_note r]
    split <;> rfl
theorem up_brace : ∀ l : Bs, pastBrace (upL l) = (pastBrace l).map upL
  | [] => rfl
  | a :: r => by
    rw [up_cons]
    unfold pastBrace
    simp only [up_eq (k := 125) (by decide), up_brace r]
    split <;> rfl
theorem up_line : ∀ l : Bs, toLine (upL l) = upL (toLine l)
  | [] => rfl
  | a :: r => by
    rw [up_cons]
    unfold toLine
    simp only [up_eq (k := 10) (by decide), up_line r]
    split <;> rfl
def mapE (f : Bs → Bs) : Except Bs Bs → Except Bs Bs
  | .error b => .error (f b)
  | .ok b => .ok (f b)
theorem up_skipF : ∀ (n : Nat) (l : Bs), skipF n (upL l) = mapE upL (skipF n l)
  | 0, l => rfl
  | n + 1, [] => rfl
  | n + 1, c :: r => by
    rw [up_cons]
    unfold skipF
    simp only []
    simp only [up_blk, up_eq (k := 40) (by decide), up_head (k := 42) (by decide), up_tail, up_note, up_eq (k := 47) (by decide), up_head (k := 47) (by decide), up_line, up_eq (k := 123) (by decide), up_brace]
    split
    · exact up_skipF n r
    · split
      · cases pastNote r.tail with
        | none => rfl
        | some r' => exact up_skipF n r'
      · split
        · exact up_skipF n _
        · split
          · cases pastBrace r with
            | none => rfl
            | some r' => exact up_skipF n r'
          · rfl
theorem up_skip (l : Bs) : skip (upL l) = mapE upL (skip l) := by
  unfold skip; rw [up_length]; exact up_skipF _ l
def mapR {α : Type} (f : Bs → Bs) : Option (α × Bs) → Option (α × Bs)
  | none => none
  | some (x, r) => some (x, f r)
theorem up_headW (base : Nat) (r : Bs) : headW base (upL r) = headW base r := by
  cases r with
  | nil => rfl
  | cons d t => show decide (worth (upC d) < base) = decide (worth d < base); rw [up_worth]
theorem up_digs (base most : Nat) : ∀ (p : Bool) (n : Nat) (l : Bs), digs base most p n (upL l) = mapR upL (digs base most p n l)
  | p, n, [] => by unfold digs; rw [up_nil]; cases p <;> rfl
  | p, n, c :: r => by
    rw [up_cons]
    unfold digs
    simp only [up_worth, up_eq (k := 95) (by decide), up_headW, up_dig]
    split
    · split
      · rfl
      · exact up_digs base most _ _ r
    · split
      · exact up_digs base most _ _ r
      · cases p with
        | false => rfl
        | true =>
          simp only [if_true]
          split <;> rfl
theorem up_take2 {a b : UInt8} (ha : ¬ (97 ≤ a ∧ a ≤ 122) ∧ ¬ (65 ≤ a ∧ a ≤ 90)) (hb : ¬ (97 ≤ b ∧ b ≤ 122) ∧ ¬ (65 ≤ b ∧ b ≤ 90)) (l : Bs) : ((upL l).take 2 = [a, b]) = (l.take 2 = [a, b]) := by
  match l with
  | [] => rfl
  | [x] => simp [up_cons, up_nil]
  | x :: y :: r => simp [up_cons, up_eq ha, up_eq hb]
theorem up_take3 {a b d : UInt8} (ha : ¬ (97 ≤ a ∧ a ≤ 122) ∧ ¬ (65 ≤ a ∧ a ≤ 90)) (hb : ¬ (97 ≤ b ∧ b ≤ 122) ∧ ¬ (65 ≤ b ∧ b ≤ 90)) (hd : ¬ (97 ≤ d ∧ d ≤ 122) ∧ ¬ (65 ≤ d ∧ d ≤ 90)) (l : Bs) : ((upL l).take 3 = [a, b, d]) = (l.take 3 = [a, b, d]) := by
  match l with
  | [] => rfl
  | [x] => simp [up_cons, up_nil]
  | [x, y] => simp [up_cons, up_nil]
  | x :: y :: z :: r => simp [up_cons, up_eq ha, up_eq hb, up_eq hd]
theorem up_drop (k : Nat) (l : Bs) : (upL l).drop k = upL (l.drop k) := by unfold upL; rw [List.map_drop]
theorem map_mapR {α β : Type} (g : α → β) (x : Option (α × Bs)) : (mapR upL x).map (fun y => (g y.1, y.2)) = mapR upL (x.map fun y => (g y.1, y.2)) := by
  cases x <;> rfl
theorem up_based (l : Bs) : based (upL l) = mapR upL (based l) := by
  unfold based
  simp only [up_take2 (a := 50) (b := 35) (by decide) (by decide), up_take2 (a := 56) (b := 35) (by decide) (by decide), up_take3 (a := 49) (b := 54) (d := 35) (by decide) (by decide) (by decide), up_drop, up_digs]
  split
  · exact map_mapR low32 _
  · split
    · exact map_mapR low32 _
    · split
      · exact map_mapR low32 _
      · exact map_mapR (fun n : Nat => (n : Int)) _
theorem up_toNat {c : UInt8} (h : isDig c = true) : upC c = c := by
  have := all8 (P := fun c => isDig c = true → upC c = c) (by decide +kernel) c
  exact this h
theorem up_run10 : ∀ (x : Nat) (l : Bs), run10 x (upL l) = mapR upL (run10 x l)
  | x, [] => rfl
  | x, c :: r => by
    rw [up_cons]
    unfold run10
    rw [up_dig]
    cases h : isDig c with
    | false => rfl
    | true =>
      rw [up_toNat h, if_pos rfl, if_pos rfl]
      split
      · rfl
      · exact up_run10 _ r
theorem up_unit (l : Bs) : unitL (upL l) = mapR upL (unitL l) := by
  cases l with
  | nil => rfl
  | cons c r =>
    have hh : (upL r).head?.map upC = r.head?.map upC := by
      cases r with
      | nil => rfl
      | cons d t => show some (upC (upC d)) = some (upC d); rw [up_up]
    rw [up_cons]
    unfold unitL
    simp only [up_up, hh, up_tail]
    repeat' split
    all_goals rfl
theorem up_time : ∀ (f lo n : Nat) (l : Bs), timeL f lo n (upL l) = mapR upL (timeL f lo n l)
  | 0, lo, n, l => rfl
  | f + 1, lo, n, [] => by
    unfold timeL
    rw [up_nil]
    simp only []
    split <;> rfl
  | f + 1, lo, n, c :: r => by
    rw [up_cons]
    unfold timeL
    simp only []
    simp only [up_dig, up_eq (k := 95) (by decide)]
    rw [← up_cons, up_run10]
    split
    · cases run10 0 (c :: r) with
      | none => rfl
      | some x =>
        obtain ⟨x, r1⟩ := x
        show (match unitL (upL r1) with | none => none | some (u, r2) => _) = _
        rw [up_unit]
        simp only []
        cases unitL r1 with
        | none => rfl
        | some y =>
          obtain ⟨u, r2⟩ := y
          simp only [mapR]
          split
          · rfl
          · exact up_time f _ _ r2
    · split <;> rfl
theorem up_typedN (ty : Int) (l : Bs) : typedN ty (upL l) = mapR upL (typedN ty l) := by
  unfold typedN
  simp only [up_head (k := 45) (by decide), up_tail, up_digs]
  split
  · cases digs 10 2147483648 false 0 l.tail with
    | none => rfl
    | some x => obtain ⟨n, r⟩ := x; simp only [mapR]; split <;> rfl
  · cases digs 10 2147483648 false 0 l with
    | none => rfl
    | some x => obtain ⟨n, r⟩ := x; simp only [mapR]; split <;> rfl
theorem up_typed (word l : Bs) : typedL word (upL l) = mapR upL (typedL word l) := by
  unfold typedL
  rw [up_time, up_typedN, up_typedN, up_typedN]
  split
  · exact map_mapR (fun n : Nat => numT (n : Int) 4) _
  · repeat' split
    all_goals rfl
theorem up_isWord (c : UInt8) : isWord (upC c) = isWord c := by unfold isWord; rw [up_let, up_dig]
theorem up_word : ∀ l : Bs, wordL (upL l) = upL (wordL l)
  | [] => rfl
  | c :: r => by
    have ih := up_word r
    unfold wordL at *
    rw [up_cons, List.takeWhile_cons, List.takeWhile_cons, up_isWord]
    split
    · rw [ih]; rfl
    · rfl
theorem up_rest : ∀ l : Bs, restL (upL l) = upL (restL l)
  | [] => rfl
  | c :: r => by
    have ih := up_rest r
    unfold restL at *
    rw [up_cons, List.dropWhile_cons, List.dropWhile_cons, up_isWord]
    split
    · rw [ih]
    · rfl
theorem up_sign (l : Bs) : signL (upL l) = mapR upL (signL l) := by
  have h2 : ((upL l).take 2 ∈ signs2) = (l.take 2 ∈ signs2) := by
    simp only [signs2, List.mem_cons, List.not_mem_nil, or_false]
    rw [up_take2 (by decide) (by decide), up_take2 (by decide) (by decide), up_take2 (by decide) (by decide), up_take2 (by decide) (by decide), up_take2 (by decide) (by decide), up_take2 (by decide) (by decide)]
  have h3 : l.take 2 ∈ signs2 → (upL l).take 2 = l.take 2 := fun h => by
    simp only [signs2, List.mem_cons, List.not_mem_nil, or_false] at h
    rcases h with h | h | h | h | h | h <;> rw [h, up_take2 (by decide) (by decide), h]
  unfold signL
  simp only [h2]
  split
  · next h => rw [h3 h, up_drop]; rfl
  · cases l with
    | nil => rfl
    | cons c r =>
      rw [up_cons]
      simp only []
      have h1 : (upC c ∈ signs1) = (c ∈ signs1) := by
        have := all8 (P := fun c => upC c ∈ signs1 ↔ c ∈ signs1) (by decide +kernel) c
        exact propext this
      have h4 : c ∈ signs1 → upC c = c := by
        have := all8 (P := fun c => c ∈ signs1 → upC c = c) (by decide +kernel) c
        exact this
      simp only [h1]
      split
      · next h => rw [h4 h]; rfl
      · rfl
theorem up_one (l : Bs) : oneTok (upL l) = mapR upL (oneTok l) := by
  cases l with
  | nil => rfl
  | cons c r =>
    rw [up_cons]
    unfold oneTok
    simp only []
    rw [← up_cons]
    simp only [up_let, up_dig, up_word, up_rest, up_head (k := 35) (by decide), up_tail, upL_upL, up_length, up_typed, up_based, up_sign]
    split
    · split
      · rfl
      · split <;> rfl
    · split
      · exact map_mapR (fun n : Int => numT n 0) _
      · rfl
theorem up_toksF : ∀ (f cnt : Nat) (l : Bs), toksF f cnt (upL l) = toksF f cnt l
  | 0, cnt, l => by unfold toksF; rw [up_length]
  | f + 1, cnt, l => by
    unfold toksF
    rw [up_skip]
    cases hs : skip l with
    | error b => simp only [mapE, up_length]
    | ok l' =>
      simp only [mapE]
      rw [up_length]
      split
      · rfl
      · cases l' with
        | nil => rfl
        | cons c r =>
          rw [up_cons]
          simp only []
          rw [← up_cons, up_one, up_length]
          cases oneTok (c :: r) with
          | none => rfl
          | some x =>
            obtain ⟨t, r'⟩ := x
            simp only [mapR]
            rw [up_toksF f (cnt + 1) r']
theorem up_toks (l : Bs) : toks (upL l) = toks l := by
  unfold toks; rw [up_length, up_toksF]
end Go.Proofs.YtfcnbiikjopajaaDoor
