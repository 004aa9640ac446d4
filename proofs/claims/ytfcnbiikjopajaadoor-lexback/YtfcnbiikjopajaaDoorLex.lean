/- Tokens of a text, as plain functions over bytes (no program): skipping, numbers, times, words, signs, and the whole. -/
import Derived.WalkKit
namespace Go.Proofs.YtfcnbiikjopajaaDoor
abbrev Bs := List UInt8
def isLet (c : UInt8) : Bool := (decide (97 ≤ c) && decide (c ≤ 122)) || ((decide (65 ≤ c) && decide (c ≤ 90)) || decide (c = 95))
def isDig (c : UInt8) : Bool := decide (48 ≤ c) && decide (c ≤ 57)
def isBlk (c : UInt8) : Bool := decide (c = 32) || (decide (c = 9) || (decide (c = 10) || decide (c = 13)))
def upC (c : UInt8) : UInt8 := if 97 ≤ c ∧ c ≤ 122 then c - 32 else c
def upL (l : Bs) : Bs := l.map upC
/-! what stands between tokens -/
/-- behind the first end of a note -/
def pastNote : Bs → Option Bs
  | [] => none
  | a :: r => if a = 42 ∧ r.head? = some 41 then some r.tail else pastNote r
/-- behind the first end of a pragma -/
def pastBrace : Bs → Option Bs
  | [] => none
  | a :: r => if a = 125 then some r else pastBrace r
/-- at the first line feed, or the end -/
def toLine : Bs → Bs
  | [] => []
  | a :: r => if a = 10 then a :: r else toLine r
/-- blanks, notes and pragmas; where one begins that has no end, that -/
def skipF : Nat → Bs → Except Bs Bs
  | 0, l => .ok l
  | n + 1, l =>
    match l with
    | [] => .ok []
    | c :: r =>
      if isBlk c then skipF n r
      else if c = 40 ∧ r.head? = some 42 then
        match pastNote r.tail with
        | none => .error l
        | some r' => skipF n r'
      else if c = 47 ∧ r.head? = some 47 then skipF n (toLine r)
      else if c = 123 then
        match pastBrace r with
        | none => .error l
        | some r' => skipF n r'
      else .ok l
def skip (l : Bs) : Except Bs Bs := skipF l.length l
theorem pastNote_len : ∀ {l r : Bs}, pastNote l = some r → r.length + 2 ≤ l.length
  | [], r, h => by cases h
  | a :: t, r, h => by
    unfold pastNote at h
    split at h
    · next hc =>
      injection h with h
      subst h
      cases t with
      | nil => cases hc.2
      | cons x y => simp
    · have := pastNote_len h
      simp; omega
theorem pastBrace_len : ∀ {l r : Bs}, pastBrace l = some r → r.length + 1 ≤ l.length
  | [], r, h => by cases h
  | a :: t, r, h => by
    unfold pastBrace at h
    split at h
    · injection h with h
      subst h; simp
    · have := pastBrace_len h
      simp; omega
theorem toLine_len : ∀ l : Bs, (toLine l).length ≤ l.length
  | [] => by simp [toLine]
  | a :: t => by
    unfold toLine
    split
    · simp
    · have := toLine_len t
      simp; omega
theorem tail_len (l : Bs) : l.tail.length ≤ l.length := by cases l <;> simp
/-- more turns than bytes change nothing -/
theorem skipF_more : ∀ (n m : Nat) (l : Bs), l.length ≤ n → l.length ≤ m → skipF n l = skipF m l
  | 0, 0, l, _, _ => rfl
  | 0, m + 1, [], _, _ => by simp [skipF]
  | n + 1, 0, [], _, _ => by simp [skipF]
  | 0, m + 1, c :: r, h, _ => by simp at h
  | n + 1, 0, c :: r, _, h => by simp at h
  | n + 1, m + 1, [], _, _ => by simp [skipF]
  | n + 1, m + 1, c :: r, hn, hm => by
    simp only [List.length_cons] at hn hm
    have key : ∀ r' : Bs, r'.length ≤ r.length → skipF n r' = skipF m r' := fun r' h => skipF_more n m r' (by omega) (by omega)
    unfold skipF
    simp only []
    split
    · exact key r (Nat.le_refl _)
    · split
      · split
        · rfl
        · next r' hr => exact key r' (by have := pastNote_len hr; have := tail_len r; omega)
      · split
        · exact key _ (toLine_len r)
        · split
          · split
            · rfl
            · next r' hr => exact key r' (by have := pastBrace_len hr; omega)
          · rfl
theorem skip_nil : skip [] = .ok [] := rfl
theorem skip_cons (c : UInt8) (r : Bs) : skip (c :: r) =
    if isBlk c then skip r
    else if c = 40 ∧ r.head? = some 42 then
      match pastNote r.tail with
      | none => .error (c :: r)
      | some r' => skip r'
    else if c = 47 ∧ r.head? = some 47 then skip (toLine r)
    else if c = 123 then
      match pastBrace r with
      | none => .error (c :: r)
      | some r' => skip r'
    else .ok (c :: r) := by
  have key : ∀ r' : Bs, r'.length ≤ r.length → skipF r.length r' = skip r' := fun r' h => skipF_more _ _ r' h (Nat.le_refl _)
  show skipF (r.length + 1) (c :: r) = _
  unfold skipF
  simp only []
  split
  · exact key r (Nat.le_refl _)
  · split
    · split
      · rfl
      · next r' hr => exact key r' (by have := pastNote_len hr; have := tail_len r; omega)
    · split
      · exact key _ (toLine_len r)
      · split
        · split
          · rfl
          · next r' hr => exact key r' (by have := pastBrace_len hr; omega)
        · rfl
/-! numbers -/
def worth (c : UInt8) : Nat := if isDig c then c.toNat - 48 else if 97 ≤ c ∧ c ≤ 102 then c.toNat - 87 else if 65 ≤ c ∧ c ≤ 70 then c.toNat - 55 else 99
def headW (base : Nat) (r : Bs) : Bool := match r with
  | [] => false
  | d :: _ => decide (worth d < base)
/-- digits of a base; p: a digit stands right ahead -/
def digs (base most : Nat) : Bool → Nat → Bs → Option (Nat × Bs)
  | p, n, [] => if p then some (n, []) else none
  | p, n, c :: r =>
    if worth c < base then (if most < n * base + worth c then none else digs base most true (n * base + worth c) r)
    else if c = 95 ∧ p = true ∧ headW base r = true then digs base most false n r
    else if p then (if c = 95 ∨ isDig c = true then none else some (n, c :: r)) else none
def low32 (n : Nat) : Int := if 2147483648 ≤ n then (n : Int) - 4294967296 else n
def based (l : Bs) : Option (Int × Bs) :=
  if l.take 2 = [50, 35] then (digs 2 4294967295 false 0 (l.drop 2)).map fun x => (low32 x.1, x.2)
  else if l.take 2 = [56, 35] then (digs 8 4294967295 false 0 (l.drop 2)).map fun x => (low32 x.1, x.2)
  else if l.take 3 = [49, 54, 35] then (digs 16 4294967295 false 0 (l.drop 3)).map fun x => (low32 x.1, x.2)
  else (digs 10 2147483648 false 0 l).map fun x => ((x.1 : Int), x.2)
/-! times -/
def run10 : Nat → Bs → Option (Nat × Bs)
  | x, [] => some (x, [])
  | x, c :: r => if isDig c then (if 2147483648 < x * 10 + (c.toNat - 48) then none else run10 (x * 10 + (c.toNat - 48)) r) else some (x, c :: r)
def unitL : Bs → Option (Nat × Bs)
  | [] => none
  | c :: r =>
    if upC c = 68 then some (0, r) else if upC c = 72 then some (1, r) else if upC c = 83 then some (3, r)
    else if upC c = 77 then (if r.head?.map upC = some 83 then some (4, r.tail) else some (2, r)) else none
def unitW (u : Nat) : Nat := if u = 0 then 86400000 else if u = 1 then 3600000 else if u = 2 then 60000 else if u = 3 then 1000 else 1
/-- a time's parts; lo: the first unit that may come still -/
def timeL : Nat → Nat → Nat → Bs → Option (Nat × Bs)
  | 0, _, _, _ => none
  | f + 1, lo, n, l =>
    match l with
    | [] => if lo = 0 then none else some (n, [])
    | c :: r =>
      if isDig c then
        match run10 0 (c :: r) with
        | none => none
        | some (x, r1) =>
          match unitL r1 with
          | none => none
          | some (u, r2) => if u < lo ∨ 2147483648 ≤ n + x * unitW u then none else timeL f (u + 1) (n + x * unitW u) r2
      else if lo = 0 ∨ c = 95 then none else some (n, c :: r)
/-! tokens -/
structure Tk where
  kind : Int
  s : Bs
  n : Int
  ty : Int
def endT : Tk := ⟨4, [], 0, 0⟩
def wordT (s : Bs) : Tk := ⟨1, s, 0, 0⟩
def numT (n ty : Int) : Tk := ⟨2, [], n, ty⟩
def signT (s : Bs) : Tk := ⟨3, s, 0, 0⟩
def fitL (t n : Int) : Bool := if t = 1 then decide (n = 0) || decide (n = 1) else if t = 2 then decide (-32768 ≤ n) && decide (n ≤ 32767) else decide (-2147483648 ≤ n) && decide (n ≤ 2147483647)
/-- a number of a type, with - ahead or not -/
def typedN (ty : Int) (l : Bs) : Option (Tk × Bs) :=
  if l.head? = some 45 then
    match digs 10 2147483648 false 0 l.tail with
    | none => none
    | some (n, r) => if fitL ty (-(n : Int)) then some (numT (-(n : Int)) ty, r) else none
  else
    match digs 10 2147483648 false 0 l with
    | none => none
    | some (n, r) => if fitL ty (n : Int) then some (numT n ty, r) else none
def typedL (word l : Bs) : Option (Tk × Bs) :=
  if word = [84] ∨ word = [84, 73, 77, 69] then (timeL 6 0 0 l).map fun x => (numT x.1 4, x.2)
  else if word = [66, 79, 79, 76] then typedN 1 l
  else if word = [73, 78, 84] then typedN 2 l
  else if word = [68, 73, 78, 84] then typedN 3 l
  else none
def isWord (c : UInt8) : Bool := isLet c || isDig c
/-- a word's bytes, and what stands behind them -/
def wordL (l : Bs) : Bs := l.takeWhile isWord
def restL (l : Bs) : Bs := l.dropWhile isWord
def signs2 : List Bs := [[58, 61], [60, 61], [62, 61], [60, 62], [42, 42], [46, 46]]
def signs1 : Bs := [40, 41, 91, 93, 44, 59, 58, 46, 43, 45, 42, 47, 61, 60, 62, 38]
def signL (l : Bs) : Option (Tk × Bs) :=
  if l.take 2 ∈ signs2 then some (signT (l.take 2), l.drop 2)
  else match l with
    | [] => none
    | c :: r => if c ∈ signs1 then some (signT [c], r) else none
def oneTok (l : Bs) : Option (Tk × Bs) :=
  match l with
  | [] => none
  | c :: r =>
    if isLet c then
      (if (restL (c :: r)).head? = some 35 then typedL (upL (wordL (c :: r))) (restL (c :: r)).tail
       else if (wordL (c :: r)).length ≤ 24 then some (wordT (upL (wordL (c :: r))), restL (c :: r)) else none)
    else if isDig c then (based (c :: r)).map fun x => (numT x.1 0, x.2)
    else signL (c :: r)
/-- the tokens, each with how many bytes stand from its place on; cnt: how many stand ahead -/
def toksF : Nat → Nat → Bs → Except (Nat × Int) (List (Tk × Nat))
  | 0, _, l => .error (l.length, 50)
  | f + 1, cnt, l =>
    match skip l with
    | .error b => .error (b.length, 50)
    | .ok l' =>
      if 4096 ≤ cnt then .error (l'.length, 2)
      else match l' with
        | [] => .ok [(endT, 0)]
        | c :: r =>
          match oneTok (c :: r) with
          | none => .error (r.length + 1, 50)
          | some (t, r') =>
            match toksF f (cnt + 1) r' with
            | .error e => .error e
            | .ok ts => .ok ((t, r.length + 1) :: ts)
def toks (l : Bs) : Except (Nat × Int) (List (Tk × Nat)) := if 65536 < l.length then .error (l.length, 2) else toksF (l.length + 1) 0 l
end Go.Proofs.YtfcnbiikjopajaaDoor
