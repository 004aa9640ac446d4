/- Tokens of a text, as plain functions over bytes (no program): skipping, numbers, times, words, signs, and the whole. | Capitals or not, the tokens are the same. -/
import Derived.WalkKit
namespace Go.Proofs.YtldjiieckddhkaaGreatDoor
abbrev Bs := List UInt8
def isLet (c : UInt8) : Bool := (decide (97 ≤ c) && decide (c ≤ 122)) || ((decide (65 ≤ c) && decide (c ≤ 90)) || decide (c = 95))
def isDig (c : UInt8) : Bool := decide (48 ≤ c) && decide (c ≤ 57)
def isBlk (c : UInt8) : Bool := decide (c = 32) || (decide (c = 9) || (decide (c = 10) || decide (c = 13)))
def upC (c : UInt8) : UInt8 := if 97 ≤ c ∧ c ≤ 122 then c - 32 else c
def upL (l : Bs) : Bs := l.map upC
/-! what stands between tokens -/
/-- behind the first end of a note -/
def pastNote : Bs → Option Bs
  | [] => none
  | a :: r => if a = 42 ∧ r.head? = some 41 then some r.tail else pastNote r
/-- behind the first end of a pragma -/
def pastBrace : Bs → Option Bs
  | [] => none
  | a :: r => if a = 125 then some r else pastBrace r
/-- at the first line feed, or the end -/
def toLine : Bs → Bs
  | [] => []
  | a :: r => if a = 10 then a :: r else toLine r
/-- blanks, notes and pragmas; where one begins that has no end, that -/
def skipF : Nat → Bs → Except Bs Bs
  | 0, l => .ok l
  | n + 1, l =>
    match l with
    | [] => .ok []
    | c :: r =>
      if isBlk c then skipF n r
      else if c = 40 ∧ r.head? = some 42 then
        match pastNote r.tail with
        | none => .error l
        | some r' => skipF n r'
      else if c = 47 ∧ r.head? = some 47 then skipF n (toLine r)
      else if c = 123 then
        match pastBrace r with
        | none => .error l
        | some r' => skipF n r'
      else .ok l
def skip (l : Bs) : Except Bs Bs := skipF l.length l
theorem pastNote_len : ∀ {l r : Bs}, pastNote l = some r → r.length + 2 ≤ l.length
  | [], r, h => by cases h
  | a :: t, r, h => by
    unfold pastNote at h
    split at h
    · next hc =>
      injection h with h
      subst h
      cases t with
      | nil => cases hc.2
      | cons x y => simp
    · have := pastNote_len h
      simp; omega
theorem pastBrace_len : ∀ {l r : Bs}, pastBrace l = some r → r.length + 1 ≤ l.length
  | [], r, h => by cases h
  | a :: t, r, h => by
    unfold pastBrace at h
    split at h
    · injection h with h
      subst h; simp
    · have := pastBrace_len h
      simp; omega
theorem toLine_len : ∀ l : Bs, (toLine l).length ≤ l.length
  | [] => by simp [toLine]
  | a :: t => by
    unfold toLine
    split
    · simp
    · have := toLine_len t
      simp; omega
theorem tail_len (l : Bs) : l.tail.length ≤ l.length := by cases l <;> simp
/-- more turns than bytes change nothing -/
theorem skipF_more : ∀ (n m : Nat) (l : Bs), l.length ≤ n → l.length ≤ m → skipF n l = skipF m l
  | 0, 0, l, _, _ => rfl
  | 0, m + 1, [], _, _ => by simp [skipF]
  | n + 1, 0, [], _, _ => by simp [skipF]
  | 0, m + 1, c :: r, h, _ => by simp at h
  | n + 1, 0, c :: r, _, h => by simp at h
  | n + 1, m + 1, [], _, _ => by simp [skipF]
  | n + 1, m + 1, c :: r, hn, hm => by
    simp only [List.length_cons] at hn hm
    have key : ∀ r' : Bs, r'.length ≤ r.length → skipF n r' = skipF m r' := fun r' h => skipF_more n m r' (by omega) (by omega)
    unfold skipF
    simp only []
    split
    · exact key r (Nat.le_refl _)
    · split
      · split
        · rfl
        · next r' hr => exact key r' (by have := pastNote_len hr; have := tail_len r; omega)
      · split
        · exact key _ (toLine_len r)
        · split
          · split
            · rfl
            · next r' hr => exact key r' (by have := pastBrace_len hr; omega)
          · rfl
theorem skip_nil : skip [] = .ok [] := rfl
theorem skip_cons (c : UInt8) (r : Bs) : skip (c :: r) =
    if isBlk c then skip r
    else if c = 40 ∧ r.head? = some 42 then
      match pastNote r.tail with
      | none => .error (c :: r)
      | some r' => skip r'
    else if c = 47 ∧ r.head? = some 47 then skip (toLine r)
    else if c = 123 then
      match pastBrace r with
      | none => .error (c :: r)
      | some r' => skip r'
    else .ok (c :: r) := by
  have key : ∀ r' : Bs, r'.length ≤ r.length → skipF r.length r' = skip r' := fun r' h => skipF_more _ _ r' h (Nat.le_refl _)
  show skipF (r.length + 1) (c :: r) = _
  unfold skipF
  simp only []
  split
  · exact key r (Nat.le_refl _)
  · split
    · split
      · rfl
      · next r' hr => exact key r' (by have := pastNote_len hr; have := tail_len r; omega)
    · split
      · exact key _ (toLine_len r)
      · split
        · split
          · rfl
          · next r' hr => exact key r' (by have := pastBrace_len hr; omega)
        · rfl
/-! numbers -/
def worth (c : UInt8) : Nat := if isDig c then c.toNat - 48 else if 97 ≤ c ∧ c ≤ 102 then c.toNat - 87 else if 65 ≤ c ∧ c ≤ 70 then c.toNat - 55 else 99
def headW (base : Nat) (r : Bs) : Bool := match r with
  | [] => false
  | d :: _ => decide (worth d < base)
/-- digits of a base; p: a digit stands right ahead -/
def digs (base most : Nat) : Bool → Nat → Bs → Option (Nat × Bs)
  | p, n, [] => if p then some (n, []) else none
  | p, n, c :: r =>
    if worth c < base then (if most < n * base + worth c then none else digs base most true (n * base + worth c) r)
    else if c = 95 ∧ p = true ∧ headW base r = true then digs base most false n r
    else if p then (if c = 95 ∨ isDig c = true then none else some (n, c :: r)) else none
def low32 (n : Nat) : Int := if 2147483648 ≤ n then (n : Int) - 4294967296 else n
def based (l : Bs) : Option (Int × Bs) :=
  if l.take 2 = [50, 35] then (digs 2 4294967295 false 0 (l.drop 2)).map fun x => (low32 x.1, x.2)
  else if l.take 2 = [56, 35] then (digs 8 4294967295 false 0 (l.drop 2)).map fun x => (low32 x.1, x.2)
  else if l.take 3 = [49, 54, 35] then (digs 16 4294967295 false 0 (l.drop 3)).map fun x => (low32 x.1, x.2)
  else (digs 10 2147483648 false 0 l).map fun x => ((x.1 : Int), x.2)
/-! times -/
def run10 : Nat → Bs → Option (Nat × Bs)
  | x, [] => some (x, [])
  | x, c :: r => if isDig c then (if 2147483648 < x * 10 + (c.toNat - 48) then none else run10 (x * 10 + (c.toNat - 48)) r) else some (x, c :: r)
def unitL : Bs → Option (Nat × Bs)
  | [] => none
  | c :: r =>
    if upC c = 68 then some (0, r) else if upC c = 72 then some (1, r) else if upC c = 83 then some (3, r)
    else if upC c = 77 then (if r.head?.map upC = some 83 then some (4, r.tail) else some (2, r)) else none
def unitW (u : Nat) : Nat := if u = 0 then 86400000 else if u = 1 then 3600000 else if u = 2 then 60000 else if u = 3 then 1000 else 1
/-- a time's parts; lo: the first unit that may come still -/
def timeL : Nat → Nat → Nat → Bs → Option (Nat × Bs)
  | 0, _, _, _ => none
  | f + 1, lo, n, l =>
    match l with
    | [] => if lo = 0 then none else some (n, [])
    | c :: r =>
      if isDig c then
        match run10 0 (c :: r) with
        | none => none
        | some (x, r1) =>
          match unitL r1 with
          | none => none
          | some (u, r2) => if u < lo ∨ 2147483648 ≤ n + x * unitW u then none else timeL f (u + 1) (n + x * unitW u) r2
      else if lo = 0 ∨ c = 95 then none else some (n, c :: r)
/-! tokens -/
structure Tk where
  kind : Int
  s : Bs
  n : Int
  ty : Int
def endT : Tk := ⟨4, [], 0, 0⟩
def wordT (s : Bs) : Tk := ⟨1, s, 0, 0⟩
def numT (n ty : Int) : Tk := ⟨2, [], n, ty⟩
def signT (s : Bs) : Tk := ⟨3, s, 0, 0⟩
def fitL (t n : Int) : Bool := if t = 1 then decide (n = 0) || decide (n = 1) else if t = 2 then decide (-32768 ≤ n) && decide (n ≤ 32767) else decide (-2147483648 ≤ n) && decide (n ≤ 2147483647)
/-- a number of a type, with - ahead or not -/
def typedN (ty : Int) (l : Bs) : Option (Tk × Bs) :=
  if l.head? = some 45 then
    match digs 10 2147483648 false 0 l.tail with
    | none => none
    | some (n, r) => if fitL ty (-(n : Int)) then some (numT (-(n : Int)) ty, r) else none
  else
    match digs 10 2147483648 false 0 l with
    | none => none
    | some (n, r) => if fitL ty (n : Int) then some (numT n ty, r) else none
def typedL (word l : Bs) : Option (Tk × Bs) :=
  if word = [84] ∨ word = [84, 73, 77, 69] then (timeL 6 0 0 l).map fun x => (numT x.1 4, x.2)
  else if word = [66, 79, 79, 76] then typedN 1 l
  else if word = [73, 78, 84] then typedN 2 l
  else if word = [68, 73, 78, 84] then typedN 3 l
  else none
def isWord (c : UInt8) : Bool := isLet c || isDig c
/-- a word's bytes, and what stands behind them -/
def wordL (l : Bs) : Bs := l.takeWhile isWord
def restL (l : Bs) : Bs := l.dropWhile isWord
def signs2 : List Bs := [[58, 61], [60, 61], [62, 61], [60, 62], [42, 42], [46, 46]]
def signs1 : Bs := [40, 41, 91, 93, 44, 59, 58, 46, 43, 45, 42, 47, 61, 60, 62, 38]
def signL (l : Bs) : Option (Tk × Bs) :=
  if l.take 2 ∈ signs2 then some (signT (l.take 2), l.drop 2)
  else match l with
    | [] => none
    | c :: r => if c ∈ signs1 then some (signT [c], r) else none
def oneTok (l : Bs) : Option (Tk × Bs) :=
  match l with
  | [] => none
  | c :: r =>
    if isLet c then
      (if (restL (c :: r)).head? = some 35 then typedL (upL (wordL (c :: r))) (restL (c :: r)).tail
       else if (wordL (c :: r)).length ≤ 24 then some (wordT (upL (wordL (c :: r))), restL (c :: r)) else none)
    else if isDig c then (based (c :: r)).map fun x => (numT x.1 0, x.2)
    else signL (c :: r)
/-- the tokens, each with how many bytes stand from its place on; cnt: how many stand ahead -/
def toksF : Nat → Nat → Bs → Except (Nat × Int) (List (Tk × Nat))
  | 0, _, l => .error (l.length, 50)
  | f + 1, cnt, l =>
    match skip l with
    | .error b => .error (b.length, 50)
    | .ok l' =>
      if 4096 ≤ cnt then .error (l'.length, 2)
      else match l' with
        | [] => .ok [(endT, 0)]
        | c :: r =>
          match oneTok (c :: r) with
          | none => .error (r.length + 1, 50)
          | some (t, r') =>
            match toksF f (cnt + 1) r' with
            | .error e => .error e
            | .ok ts => .ok ((t, r.length + 1) :: ts)
def toks (l : Bs) : Except (Nat × Int) (List (Tk × Nat)) := if 65536 < l.length then .error (l.length, 2) else toksF (l.length + 1) 0 l
end Go.Proofs.YtldjiieckddhkaaGreatDoor
namespace Go.Proofs.YtldjiieckddhkaaGreatDoor
theorem all8 {P : UInt8 → Prop} (h : ∀ n : Fin 256, P (UInt8.ofNat n.val)) (c : UInt8) : P c := by
  have := h ⟨c.toNat, c.toNat_lt⟩
  simpa using this
theorem up_let (c : UInt8) : isLet (upC c) = isLet c := all8 (P := fun c => isLet (upC c) = isLet c) (by decide +kernel) c
theorem up_dig (c : UInt8) : isDig (upC c) = isDig c := all8 (P := fun c => isDig (upC c) = isDig c) (by decide +kernel) c
theorem up_blk (c : UInt8) : isBlk (upC c) = isBlk c := all8 (P := fun c => isBlk (upC c) = isBlk c) (by decide +kernel) c
theorem up_worth (c : UInt8) : worth (upC c) = worth c := all8 (P := fun c => worth (upC c) = worth c) (by decide +kernel) c
theorem up_up (c : UInt8) : upC (upC c) = upC c := all8 (P := fun c => upC (upC c) = upC c) (by decide +kernel) c
theorem upL_upL (l : Bs) : upL (upL l) = upL l := by unfold upL; rw [List.map_map]; congr 1; funext c; exact up_up c
/-- a byte that is no letter is met just by itself -/
theorem up_eq {k : UInt8} (hk : ¬ (97 ≤ k ∧ k ≤ 122) ∧ ¬ (65 ≤ k ∧ k ≤ 90)) (c : UInt8) : (upC c = k) = (c = k) := by
  have h1 : 97 ≤ c ∧ c ≤ 122 → 65 ≤ upC c ∧ upC c ≤ 90 := all8 (P := fun c => 97 ≤ c ∧ c ≤ 122 → 65 ≤ upC c ∧ upC c ≤ 90) (by decide +kernel) c
  by_cases h : 97 ≤ c ∧ c ≤ 122
  · refine propext ⟨fun e => ?_, fun e => ?_⟩
    · rw [e] at h1; exact absurd (h1 h) hk.2
    · rw [e] at h; exact absurd h hk.1
  · have e : upC c = c := by unfold upC; rw [if_neg h]
    rw [e]
theorem up_head {k : UInt8} (hk : ¬ (97 ≤ k ∧ k ≤ 122) ∧ ¬ (65 ≤ k ∧ k ≤ 90)) (l : Bs) : ((upL l).head? = some k) = (l.head? = some k) := by
  cases l with
  | nil => rfl
  | cons a r =>
    show (some (upC a) = some k) = (some a = some k)
    rw [Option.some.injEq, Option.some.injEq, up_eq hk]
theorem up_tail (l : Bs) : (upL l).tail = upL l.tail := by cases l <;> rfl
theorem up_length (l : Bs) : (upL l).length = l.length := List.length_map _
theorem up_nil : upL [] = [] := rfl
theorem up_cons (c : UInt8) (r : Bs) : upL (c :: r) = upC c :: upL r := rfl
theorem up_note : ∀ l : Bs, pastNote (upL l) = (pastNote l).map upL
  | [] => rfl
  | a :: r => by
    rw [up_cons]
    unfold pastNote
    simp only [up_eq (k := 42) (by decide), up_head (k := 41) (by decide), up_tail, up_note r]
    split <;> rfl
theorem up_brace : ∀ l : Bs, pastBrace (upL l) = (pastBrace l).map upL
  | [] => rfl
  | a :: r => by
    rw [up_cons]
    unfold pastBrace
    simp only [up_eq (k := 125) (by decide), up_brace r]
    split <;> rfl
theorem up_line : ∀ l : Bs, toLine (upL l) = upL (toLine l)
  | [] => rfl
  | a :: r => by
    rw [up_cons]
    unfold toLine
    simp only [up_eq (k := 10) (by decide), up_line r]
    split <;> rfl
def mapE (f : Bs → Bs) : Except Bs Bs → Except Bs Bs
  | .error b => .error (f b)
  | .ok b => .ok (f b)
theorem up_skipF : ∀ (n : Nat) (l : Bs), skipF n (upL l) = mapE upL (skipF n l)
  | 0, l => rfl
  | n + 1, [] => rfl
  | n + 1, c :: r => by
    rw [up_cons]
    unfold skipF
    simp only []
    simp only [up_blk, up_eq (k := 40) (by decide), up_head (k := 42) (by decide), up_tail, up_note, up_eq (k := 47) (by decide), up_head (k := 47) (by decide), up_line, up_eq (k := 123) (by decide), up_brace]
    split
    · exact up_skipF n r
    · split
      · cases pastNote r.tail with
        | none => rfl
        | some r' => exact up_skipF n r'
      · split
        · exact up_skipF n _
        · split
          · cases pastBrace r with
            | none => rfl
            | some r' => exact up_skipF n r'
          · rfl
theorem up_skip (l : Bs) : skip (upL l) = mapE upL (skip l) := by
  unfold skip; rw [up_length]; exact up_skipF _ l
def mapR {α : Type} (f : Bs → Bs) : Option (α × Bs) → Option (α × Bs)
  | none => none
  | some (x, r) => some (x, f r)
theorem up_headW (base : Nat) (r : Bs) : headW base (upL r) = headW base r := by
  cases r with
  | nil => rfl
  | cons d t => show decide (worth (upC d) < base) = decide (worth d < base); rw [up_worth]
theorem up_digs (base most : Nat) : ∀ (p : Bool) (n : Nat) (l : Bs), digs base most p n (upL l) = mapR upL (digs base most p n l)
  | p, n, [] => by unfold digs; rw [up_nil]; cases p <;> rfl
  | p, n, c :: r => by
    rw [up_cons]
    unfold digs
    simp only [up_worth, up_eq (k := 95) (by decide), up_headW, up_dig]
    split
    · split
      · rfl
      · exact up_digs base most _ _ r
    · split
      · exact up_digs base most _ _ r
      · cases p with
        | false => rfl
        | true =>
          simp only [if_true]
          split <;> rfl
theorem up_take2 {a b : UInt8} (ha : ¬ (97 ≤ a ∧ a ≤ 122) ∧ ¬ (65 ≤ a ∧ a ≤ 90)) (hb : ¬ (97 ≤ b ∧ b ≤ 122) ∧ ¬ (65 ≤ b ∧ b ≤ 90)) (l : Bs) : ((upL l).take 2 = [a, b]) = (l.take 2 = [a, b]) := by
  match l with
  | [] => rfl
  | [x] => simp [up_cons, up_nil]
  | x :: y :: r => simp [up_cons, up_eq ha, up_eq hb]
theorem up_take3 {a b d : UInt8} (ha : ¬ (97 ≤ a ∧ a ≤ 122) ∧ ¬ (65 ≤ a ∧ a ≤ 90)) (hb : ¬ (97 ≤ b ∧ b ≤ 122) ∧ ¬ (65 ≤ b ∧ b ≤ 90)) (hd : ¬ (97 ≤ d ∧ d ≤ 122) ∧ ¬ (65 ≤ d ∧ d ≤ 90)) (l : Bs) : ((upL l).take 3 = [a, b, d]) = (l.take 3 = [a, b, d]) := by
  match l with
  | [] => rfl
  | [x] => simp [up_cons, up_nil]
  | [x, y] => simp [up_cons, up_nil]
  | x :: y :: z :: r => simp [up_cons, up_eq ha, up_eq hb, up_eq hd]
theorem up_drop (k : Nat) (l : Bs) : (upL l).drop k = upL (l.drop k) := by unfold upL; rw [List.map_drop]
theorem map_mapR {α β : Type} (g : α → β) (x : Option (α × Bs)) : (mapR upL x).map (fun y => (g y.1, y.2)) = mapR upL (x.map fun y => (g y.1, y.2)) := by
  cases x <;> rfl
theorem up_based (l : Bs) : based (upL l) = mapR upL (based l) := by
  unfold based
  simp only [up_take2 (a := 50) (b := 35) (by decide) (by decide), up_take2 (a := 56) (b := 35) (by decide) (by decide), up_take3 (a := 49) (b := 54) (d := 35) (by decide) (by decide) (by decide), up_drop, up_digs]
  split
  · exact map_mapR low32 _
  · split
    · exact map_mapR low32 _
    · split
      · exact map_mapR low32 _
      · exact map_mapR (fun n : Nat => (n : Int)) _
theorem up_toNat {c : UInt8} (h : isDig c = true) : upC c = c := by
  have := all8 (P := fun c => isDig c = true → upC c = c) (by decide +kernel) c
  exact this h
theorem up_run10 : ∀ (x : Nat) (l : Bs), run10 x (upL l) = mapR upL (run10 x l)
  | x, [] => rfl
  | x, c :: r => by
    rw [up_cons]
    unfold run10
    rw [up_dig]
    cases h : isDig c with
    | false => rfl
    | true =>
      rw [up_toNat h, if_pos rfl, if_pos rfl]
      split
      · rfl
      · exact up_run10 _ r
theorem up_unit (l : Bs) : unitL (upL l) = mapR upL (unitL l) := by
  cases l with
  | nil => rfl
  | cons c r =>
    have hh : (upL r).head?.map upC = r.head?.map upC := by
      cases r with
      | nil => rfl
      | cons d t => show some (upC (upC d)) = some (upC d); rw [up_up]
    rw [up_cons]
    unfold unitL
    simp only [up_up, hh, up_tail]
    repeat' split
    all_goals rfl
theorem up_time : ∀ (f lo n : Nat) (l : Bs), timeL f lo n (upL l) = mapR upL (timeL f lo n l)
  | 0, lo, n, l => rfl
  | f + 1, lo, n, [] => by
    unfold timeL
    rw [up_nil]
    simp only []
    split <;> rfl
  | f + 1, lo, n, c :: r => by
    rw [up_cons]
    unfold timeL
    simp only []
    simp only [up_dig, up_eq (k := 95) (by decide)]
    rw [← up_cons, up_run10]
    split
    · cases run10 0 (c :: r) with
      | none => rfl
      | some x =>
        obtain ⟨x, r1⟩ := x
        show (match unitL (upL r1) with | none => none | some (u, r2) => _) = _
        rw [up_unit]
        simp only []
        cases unitL r1 with
        | none => rfl
        | some y =>
          obtain ⟨u, r2⟩ := y
          simp only [mapR]
          split
          · rfl
          · exact up_time f _ _ r2
    · split <;> rfl
theorem up_typedN (ty : Int) (l : Bs) : typedN ty (upL l) = mapR upL (typedN ty l) := by
  unfold typedN
  simp only [up_head (k := 45) (by decide), up_tail, up_digs]
  split
  · cases digs 10 2147483648 false 0 l.tail with
    | none => rfl
    | some x => obtain ⟨n, r⟩ := x; simp only [mapR]; split <;> rfl
  · cases digs 10 2147483648 false 0 l with
    | none => rfl
    | some x => obtain ⟨n, r⟩ := x; simp only [mapR]; split <;> rfl
theorem up_typed (word l : Bs) : typedL word (upL l) = mapR upL (typedL word l) := by
  unfold typedL
  rw [up_time, up_typedN, up_typedN, up_typedN]
  split
  · exact map_mapR (fun n : Nat => numT (n : Int) 4) _
  · repeat' split
    all_goals rfl
theorem up_isWord (c : UInt8) : isWord (upC c) = isWord c := by unfold isWord; rw [up_let, up_dig]
theorem up_word : ∀ l : Bs, wordL (upL l) = upL (wordL l)
  | [] => rfl
  | c :: r => by
    have ih := up_word r
    unfold wordL at *
    rw [up_cons, List.takeWhile_cons, List.takeWhile_cons, up_isWord]
    split
    · rw [ih]; rfl
    · rfl
theorem up_rest : ∀ l : Bs, restL (upL l) = upL (restL l)
  | [] => rfl
  | c :: r => by
    have ih := up_rest r
    unfold restL at *
    rw [up_cons, List.dropWhile_cons, List.dropWhile_cons, up_isWord]
    split
    · rw [ih]
    · rfl
theorem up_sign (l : Bs) : signL (upL l) = mapR upL (signL l) := by
  have h2 : ((upL l).take 2 ∈ signs2) = (l.take 2 ∈ signs2) := by
    simp only [signs2, List.mem_cons, List.not_mem_nil, or_false]
    rw [up_take2 (by decide) (by decide), up_take2 (by decide) (by decide), up_take2 (by decide) (by decide), up_take2 (by decide) (by decide), up_take2 (by decide) (by decide), up_take2 (by decide) (by decide)]
  have h3 : l.take 2 ∈ signs2 → (upL l).take 2 = l.take 2 := fun h => by
    simp only [signs2, List.mem_cons, List.not_mem_nil, or_false] at h
    rcases h with h | h | h | h | h | h <;> rw [h, up_take2 (by decide) (by decide), h]
  unfold signL
  simp only [h2]
  split
  · next h => rw [h3 h, up_drop]; rfl
  · cases l with
    | nil => rfl
    | cons c r =>
      rw [up_cons]
      simp only []
      have h1 : (upC c ∈ signs1) = (c ∈ signs1) := by
        have := all8 (P := fun c => upC c ∈ signs1 ↔ c ∈ signs1) (by decide +kernel) c
        exact propext this
      have h4 : c ∈ signs1 → upC c = c := by
        have := all8 (P := fun c => c ∈ signs1 → upC c = c) (by decide +kernel) c
        exact this
      simp only [h1]
      split
      · next h => rw [h4 h]; rfl
      · rfl
theorem up_one (l : Bs) : oneTok (upL l) = mapR upL (oneTok l) := by
  cases l with
  | nil => rfl
  | cons c r =>
    rw [up_cons]
    unfold oneTok
    simp only []
    rw [← up_cons]
    simp only [up_let, up_dig, up_word, up_rest, up_head (k := 35) (by decide), up_tail, upL_upL, up_length, up_typed, up_based, up_sign]
    split
    · split
      · rfl
      · split <;> rfl
    · split
      · exact map_mapR (fun n : Int => numT n 0) _
      · rfl
theorem up_toksF : ∀ (f cnt : Nat) (l : Bs), toksF f cnt (upL l) = toksF f cnt l
  | 0, cnt, l => by unfold toksF; rw [up_length]
  | f + 1, cnt, l => by
    unfold toksF
    rw [up_skip]
    cases hs : skip l with
    | error b => simp only [mapE, up_length]
    | ok l' =>
      simp only [mapE]
      rw [up_length]
      split
      · rfl
      · cases l' with
        | nil => rfl
        | cons c r =>
          rw [up_cons]
          simp only []
          rw [← up_cons, up_one, up_length]
          cases oneTok (c :: r) with
          | none => rfl
          | some x =>
            obtain ⟨t, r'⟩ := x
            simp only [mapR]
            rw [up_toksF f (cnt + 1) r']
theorem up_toks (l : Bs) : toks (upL l) = toks l := by
  unfold toks; rw [up_length, up_toksF]
end Go.Proofs.YtldjiieckddhkaaGreatDoor
