/- Lex | Case | Prog5 | Leaf | DigW | Rel | Ext | Show | Back | Nums | Expr | Glo -/
import Derived.WalkKit
import Derived.Test.YtldjiieckddhkaaGreatDoorProg
import Derived.Deep.QuietTactic
import Derived.BigQuiet
import Derived.Deep.MidRow
import Derived.Deep.DeepMust
import Derived.Deep.WholeRow
import Derived.Great.BuildSlice
namespace Go.Proofs.YtldjiieckddhkaaGreatDoor
abbrev Bs := List UInt8
def isLet (c : UInt8) : Bool := (decide (97 ≤ c) && decide (c ≤ 122)) || ((decide (65 ≤ c) && decide (c ≤ 90)) || decide (c = 95))
def isDig (c : UInt8) : Bool := decide (48 ≤ c) && decide (c ≤ 57)
def isBlk (c : UInt8) : Bool := decide (c = 32) || (decide (c = 9) || (decide (c = 10) || decide (c = 13)))
def upC (c : UInt8) : UInt8 := if 97 ≤ c ∧ c ≤ 122 then c - 32 else c
def upL (l : Bs) : Bs := l.map upC
def pastNote : Bs → Option Bs
  | [] => none
  | a :: r => if a = 42 ∧ r.head? = some 41 then some r.tail else pastNote r
def pastBrace : Bs → Option Bs
  | [] => none
  | a :: r => if a = 125 then some r else pastBrace r
def toLine : Bs → Bs
  | [] => []
  | a :: r => if a = 10 then a :: r else toLine r
def skipF : Nat → Bs → Except Bs Bs
  | 0, l => .ok l
  | n + 1, l =>
    match l with
    | [] => .ok []
    | c :: r =>
      if isBlk c then skipF n r
      else if c = 40 ∧ r.head? = some 42 then
        match pastNote r.tail with
        | none => .error l
        | some r' => skipF n r'
      else if c = 47 ∧ r.head? = some 47 then skipF n (toLine r)
      else if c = 123 then
        match pastBrace r with
        | none => .error l
        | some r' => skipF n r'
      else .ok l
def skip (l : Bs) : Except Bs Bs := skipF l.length l
def worth (c : UInt8) : Nat := if isDig c then c.toNat - 48 else if 97 ≤ c ∧ c ≤ 102 then c.toNat - 87 else if 65 ≤ c ∧ c ≤ 70 then c.toNat - 55 else 99
def headW (base : Nat) (r : Bs) : Bool := match r with
  | [] => false
  | d :: _ => decide (worth d < base)
def digs (base most : Nat) : Bool → Nat → Bs → Option (Nat × Bs)
  | p, n, [] => if p then some (n, []) else none
  | p, n, c :: r =>
    if worth c < base then (if most < n * base + worth c then none else digs base most true (n * base + worth c) r)
    else if c = 95 ∧ p = true ∧ headW base r = true then digs base most false n r
    else if p then (if c = 95 ∨ isDig c = true then none else some (n, c :: r)) else none
def low32 (n : Nat) : Int := if 2147483648 ≤ n then (n : Int) - 4294967296 else n
def based (l : Bs) : Option (Int × Bs) :=
  if l.take 2 = [50, 35] then (digs 2 4294967295 false 0 (l.drop 2)).map fun x => (low32 x.1, x.2)
  else if l.take 2 = [56, 35] then (digs 8 4294967295 false 0 (l.drop 2)).map fun x => (low32 x.1, x.2)
  else if l.take 3 = [49, 54, 35] then (digs 16 4294967295 false 0 (l.drop 3)).map fun x => (low32 x.1, x.2)
  else (digs 10 2147483648 false 0 l).map fun x => ((x.1 : Int), x.2)
def run10 : Nat → Bs → Option (Nat × Bs)
  | x, [] => some (x, [])
  | x, c :: r => if isDig c then (if 2147483648 < x * 10 + (c.toNat - 48) then none else run10 (x * 10 + (c.toNat - 48)) r) else some (x, c :: r)
def unitL : Bs → Option (Nat × Bs)
  | [] => none
  | c :: r =>
    if upC c = 68 then some (0, r) else if upC c = 72 then some (1, r) else if upC c = 83 then some (3, r)
    else if upC c = 77 then (if r.head?.map upC = some 83 then some (4, r.tail) else some (2, r)) else none
def unitW (u : Nat) : Nat := if u = 0 then 86400000 else if u = 1 then 3600000 else if u = 2 then 60000 else if u = 3 then 1000 else 1
def timeL : Nat → Nat → Nat → Bs → Option (Nat × Bs)
  | 0, _, _, _ => none
  | f + 1, lo, n, l =>
    match l with
    | [] => if lo = 0 then none else some (n, [])
    | c :: r =>
      if isDig c then
        match run10 0 (c :: r) with
        | none => none
        | some (x, r1) =>
          match unitL r1 with
          | none => none
          | some (u, r2) => if u < lo ∨ 2147483648 ≤ n + x * unitW u then none else timeL f (u + 1) (n + x * unitW u) r2
      else if lo = 0 ∨ c = 95 then none else some (n, c :: r)
structure Tk where
  kind : Int
  s : Bs
  n : Int
  ty : Int
def endT : Tk := ⟨4, [], 0, 0⟩
def wordT (s : Bs) : Tk := ⟨1, s, 0, 0⟩
def numT (n ty : Int) : Tk := ⟨2, [], n, ty⟩
def signT (s : Bs) : Tk := ⟨3, s, 0, 0⟩
def fitL (t n : Int) : Bool := if t = 1 then decide (n = 0) || decide (n = 1) else if t = 2 then decide (-32768 ≤ n) && decide (n ≤ 32767) else decide (-2147483648 ≤ n) && decide (n ≤ 2147483647)
def typedN (ty : Int) (l : Bs) : Option (Tk × Bs) :=
  if l.head? = some 45 then
    match digs 10 2147483648 false 0 l.tail with
    | none => none
    | some (n, r) => if fitL ty (-(n : Int)) then some (numT (-(n : Int)) ty, r) else none
  else
    match digs 10 2147483648 false 0 l with
    | none => none
    | some (n, r) => if fitL ty (n : Int) then some (numT n ty, r) else none
def typedL (word l : Bs) : Option (Tk × Bs) :=
  if word = [84] ∨ word = [84, 73, 77, 69] then (timeL 6 0 0 l).map fun x => (numT x.1 4, x.2)
  else if word = [66, 79, 79, 76] then typedN 1 l
  else if word = [73, 78, 84] then typedN 2 l
  else if word = [68, 73, 78, 84] then typedN 3 l
  else none
def isWord (c : UInt8) : Bool := isLet c || isDig c
def wordL (l : Bs) : Bs := l.takeWhile isWord
def restL (l : Bs) : Bs := l.dropWhile isWord
def signs2 : List Bs := [[58, 61], [60, 61], [62, 61], [60, 62], [42, 42], [46, 46]]
def signs1 : Bs := [40, 41, 91, 93, 44, 59, 58, 46, 43, 45, 42, 47, 61, 60, 62, 38]
def signL (l : Bs) : Option (Tk × Bs) :=
  if l.take 2 ∈ signs2 then some (signT (l.take 2), l.drop 2)
  else match l with
    | [] => none
    | c :: r => if c ∈ signs1 then some (signT [c], r) else none
def oneTok (l : Bs) : Option (Tk × Bs) :=
  match l with
  | [] => none
  | c :: r =>
    if isLet c then
      (if (restL (c :: r)).head? = some 35 then typedL (upL (wordL (c :: r))) (restL (c :: r)).tail
       else if (wordL (c :: r)).length ≤ 24 then some (wordT (upL (wordL (c :: r))), restL (c :: r)) else none)
    else if isDig c then (based (c :: r)).map fun x => (numT x.1 0, x.2)
    else signL (c :: r)
end Go.Proofs.YtldjiieckddhkaaGreatDoor
namespace Go.Proofs.YtldjiieckddhkaaGreatDoor
end Go.Proofs.YtldjiieckddhkaaGreatDoor
namespace Go.Proofs.YtldjiieckddhkaaGreatDoor
def goesOn : Bs → Bool
  | [] => false
  | c :: _ => isDig c || decide (c = 95)
end Go.Proofs.YtldjiieckddhkaaGreatDoor
namespace Go.Proofs.YtldjiieckddhkaaGreatDoor
open Go.RowKit
theorem hide {p : Prop} (h : p) : Hid p := h
theorem ret_bool {a b : Bool} (h : a = b) : Ending.returned (.bool a) = .returned (.bool b) := by rw [h]
theorem ret_int {k : IntKind} {a b : Int} (h : a = b) : Ending.returned (.int k a) = .returned (.int k b) := by rw [h]
theorem text_len (s : ByteArray) : s.data.toList.length = s.size := by rw [Array.length_toList]; rfl
theorem text_ext {a b : ByteArray} (h : a.data.toList = b.data.toList) : a = b := ByteArray.ext (Array.toList_inj.1 h)
theorem list_size (l : List UInt8) : (⟨l.toArray⟩ : ByteArray).size = l.length := by show l.toArray.size = _; simp
theorem of_list (t : ByteArray) (l : List UInt8) (h : t.data.toList = l) : t = ⟨l.toArray⟩ := text_ext (by rw [h])
theorem u8_le {a b : UInt8} : a ≤ b ↔ (a.toNat : Int) ≤ (b.toNat : Int) := by rw [UInt8.le_iff_toNat_le]; omega
theorem u8_eq {a b : UInt8} : a = b ↔ (a.toNat : Int) = (b.toNat : Int) := by rw [← UInt8.toNat_inj]; omega
theorem dig_int (c : UInt8) : isDig c = (decide ((48 : Int) ≤ (c.toNat : Int)) && decide ((c.toNat : Int) ≤ 57)) := by
  unfold isDig
  rw [Bool.eq_iff_iff]
  simp only [Bool.and_eq_true, decide_eq_true_eq, u8_le]
  exact Iff.rfl
end Go.Proofs.YtldjiieckddhkaaGreatDoor
namespace Go.Proofs.YtldjiieckddhkaaGreatDoor
open Go.RowKit
theorem run_idx (s : ByteArray) (k : Nat) (c : UInt8) (h : s.data.toList[k]? = some c) (W : World) : (Instr.index 9 (.string s) (.int .i64 (k : Int))).run Tryz.prog W = .ok (.int .u8 (c.toNat : Int)) W := by
  have e : s[k]? = some c := by
    have hk : k < s.size := by rw [← text_len]; exact (List.getElem?_eq_some_iff.1 h).1
    rw [Array.getElem?_toList] at h
    have h' := (Array.getElem?_eq_some_iff.1 h).2
    simp [hk]; exact h'
  have hk : k < s.size := by rw [← text_len]; exact (List.getElem?_eq_some_iff.1 h).1
  simp only [Instr.index, asIntOf, Sem.run_bind, Sem.run_pure, Result.andThen_ok, run_underlying Tryz.underlying9]
  rw [if_pos (by omega), Int.toNat_natCast]
  simp [e]
theorem below_drawn {B : Nat} {a w : World} (h : Below B a w) (n : Nat) : Below B a (w.drewN n) := h.trans ⟨rfl, rfl, rfl, Nat.le_refl _, fun _ _ => rfl⟩
end Go.Proofs.YtldjiieckddhkaaGreatDoor
namespace Go.Proofs.YtldjiieckddhkaaGreatDoor
inductive Lexes : Bs → List (Tk × Nat) → Prop
  | fin {l : Bs} (h : skip l = .ok []) : Lexes l [(endT, 0)]
  | step {l r r' : Bs} {c : UInt8} {t : Tk} {ts : List (Tk × Nat)} (h : skip l = .ok (c :: r)) (h1 : oneTok (c :: r) = some (t, r')) (h2 : Lexes r' ts) : Lexes l ((t, r.length + 1) :: ts)
end Go.Proofs.YtldjiieckddhkaaGreatDoor
namespace Go.Proofs.YtldjiieckddhkaaGreatDoor
end Go.Proofs.YtldjiieckddhkaaGreatDoor
namespace Go.Proofs.YtldjiieckddhkaaGreatDoor
def val (base : Nat) (m : Nat) (ds : Bs) : Nat := ds.foldl (fun a c => a * base + worth c) m
end Go.Proofs.YtldjiieckddhkaaGreatDoor
namespace Go.Proofs.YtldjiieckddhkaaGreatDoor
end Go.Proofs.YtldjiieckddhkaaGreatDoor
namespace Go.Proofs.YtldjiieckddhkaaGreatDoor
def blanks : List Bs → Bs
  | [] => []
  | s :: r => s ++ 32 :: blanks r
inductive Each : List Bs → List Tk → Prop
  | nil : Each [] []
  | cons {s : Bs} {t : Tk} {ss : List Bs} {ts : List Tk} (h : oneTok s = some (t, [])) (r : Each ss ts) : Each (s :: ss) (t :: ts)
end Go.Proofs.YtldjiieckddhkaaGreatDoor
namespace Go.Proofs.YtldjiieckddhkaaGreatDoor
structure Pt where
  kind : Int
  s : Bs
  f : Bs
  n : Int
  t : Int
def numP (n t : Int) : Pt := ⟨1, [], [], n, t⟩
def varP (s : Bs) : Pt := ⟨2, s, [], 0, 0⟩
def idxP (s : Bs) : Pt := ⟨3, s, [], 0, 0⟩
def fldP (s f : Bs) : Pt := ⟨4, s, f, 0, 0⟩
def opP (n : Int) : Pt := ⟨5, [], [], n, 0⟩
def toP (t : Int) : Pt := ⟨6, [], [], 0, t⟩
def kwB : List Bs := [[80, 82, 79, 71, 82, 65, 77], [69, 78, 68, 95, 80, 82, 79, 71, 82, 65, 77], [86, 65, 82], [86, 65, 82, 95, 73, 78, 80, 85, 84], [86, 65, 82, 95, 79, 85, 84, 80, 85, 84], [69, 78, 68, 95, 86, 65, 82], [65, 82, 82, 65, 89], [79, 70], [66, 79, 79, 76], [73, 78, 84], [68, 73, 78, 84], [84, 73, 77, 69], [84, 79, 78], [84, 79, 70], [84, 80], [67, 84, 85], [67, 84, 68], [82, 95, 84, 82, 73, 71], [70, 95, 84, 82, 73, 71], [83, 82], [82, 83], [81, 85, 65, 68], [73, 70], [84, 72, 69, 78], [69, 76, 83, 73, 70], [69, 76, 83, 69], [69, 78, 68, 95, 73, 70], [67, 65, 83, 69], [69, 78, 68, 95, 67, 65, 83, 69], [87, 72, 73, 76, 69], [68, 79], [69, 78, 68, 95, 87, 72, 73, 76, 69], [70, 79, 82], [84, 79], [66, 89], [69, 78, 68, 95, 70, 79, 82], [82, 69, 80, 69, 65, 84], [85, 78, 84, 73, 76], [69, 78, 68, 95, 82, 69, 80, 69, 65, 84], [69, 88, 73, 84], [82, 69, 84, 85, 82, 78], [65, 78, 68], [79, 82], [88, 79, 82], [78, 79, 84], [77, 79, 68], [84, 82, 85, 69], [70, 65, 76, 83, 69], [84, 79, 95, 73, 78, 84], [84, 79, 95, 68, 73, 78, 84], [84, 79, 95, 84, 73, 77, 69]]
def capC (c : UInt8) : Bool := (decide (65 ≤ c) && decide (c ≤ 90)) || (isDig c || decide (c = 95))
def wordB (s : Bs) : Bool := match s with
  | [] => false
  | c :: r => decide (r.length + 1 ≤ 24) && (!isDig c && (c :: r).all capC)
def nameB (s : Bs) : Bool := !(kwB.contains s) && wordB s
def rowOps (n : Nat) : List (Int × Bs × Int) := match n with
  | 0 => [(1, [79, 82], 7)]
  | 1 => [(1, [88, 79, 82], 8)]
  | 2 => [(1, [65, 78, 68], 6), (3, [38], 6)]
  | 3 => [(3, [61], 9), (3, [60, 62], 10)]
  | 4 => [(3, [60], 11), (3, [60, 61], 12), (3, [62], 13), (3, [62, 61], 14)]
  | 5 => [(3, [43], 1), (3, [45], 2)]
  | 6 => [(3, [42], 3), (3, [47], 4), (1, [77, 79, 68], 5)]
  | _ => []
def opIn (n : Nat) (t : Tk) : Option Int := ((rowOps n).find? fun x => decide (x.1 = t.kind) && (x.2.1 == t.s)).map (·.2.2)
def isSign (s : Bs) (t : Tk) : Bool := decide (t.kind = 3) && (t.s == s)
def unOp (t : Tk) : Option Int := if t.kind = 3 ∧ t.s = [45] then some 15 else if t.kind = 1 ∧ t.s = [78, 79, 84] then some 16 else none
def toT (s : Bs) : Int := if s = [84, 79, 95, 73, 78, 84] then 2 else if s = [84, 79, 95, 68, 73, 78, 84] then 3 else if s = [84, 79, 95, 84, 73, 77, 69] then 4 else 0
def truB : Bs := [84, 82, 85, 69]
def falB : Bs := [70, 65, 76, 83, 69]
abbrev Res := Except (Nat × Int) (List Pt × List Tk)
def within (a b : Bs) (d : Nat) (l : List Tk) (go : List Tk → Option Res) : Option Res :=
  match l with
  | [] => some (.error (0, 60))
  | t :: q =>
    if isSign a t then
      (if 200 ≤ d then some (.error (q.length + 1, 2))
       else match go q with
        | none => none
        | some (.error e) => some (.error e)
        | some (.ok (x, r)) =>
          match r with
          | [] => some (.error (0, 60))
          | u :: r' => if isSign b u then some (.ok (x, r')) else some (.error (r'.length + 1, 60)))
    else some (.error (q.length + 1, 60))
def addP (p : Pt) : Option Res → Option Res
  | some (.ok (x, r)) => some (.ok (x ++ [p], r))
  | y => y
inductive Md
  | row (n : Nat)
  | loop (n : Nat)
  | una
  | pri
def takes (p : Pt) : Nat := if p.kind = 3 ∨ p.kind = 6 then 1 else if p.kind = 5 ∧ (p.n = 15 ∨ p.n = 16) then 1 else if p.kind = 5 then 2 else 0
def depths : List Pt → List Nat → Option (List Nat)
  | [], st => some st
  | p :: x, st =>
    if takes p = 0 then depths x (1 :: st)
    else if takes p = 1 then (match st with
      | a :: r => depths x ((a + 1) :: r)
      | [] => none)
    else (match st with
      | a :: b :: r => depths x ((max a b + 1) :: r)
      | _ => none)
def depth (x : List Pt) : Nat := match depths x [] with
  | some [d] => d
  | _ => 0
def fuel (l : List Tk) : Nat := 12 * l.length + 12
end Go.Proofs.YtldjiieckddhkaaGreatDoor
namespace Go.Proofs.YtldjiieckddhkaaGreatDoor
open Go.RowKit
def spanTab : List Value := [.int .i64 0, .int .i64 0, .int .i64 0, .int .i64 1, .int .i64 (-32768), .int .i64 32767, .int .i64 (-2147483648), .int .i64 2147483647, .int .i64 (-2147483648), .int .i64 2147483647]
def TabAt (w : World) (b : Nat) (t : List Value) : Prop := ∀ k v, t[k]? = some v → w.cell? ⟨b, k, none⟩ = some v
def kwTab : List Value := kwB.map fun s => .string ⟨s.toArray⟩
def opRows : List (Int × Int × Bs × Int) := [(0, 1, [79, 82], 7), (1, 1, [88, 79, 82], 8), (2, 1, [65, 78, 68], 6), (2, 3, [38], 6), (3, 3, [61], 9), (3, 3, [60, 62], 10), (4, 3, [60], 11), (4, 3, [60, 61], 12), (4, 3, [62], 13), (4, 3, [62, 61], 14), (5, 3, [43], 1), (5, 3, [45], 2), (6, 3, [42], 3), (6, 3, [47], 4), (6, 1, [77, 79, 68], 5), (7, 1, [78, 79, 84], 16), (7, 3, [45], 15)]
def opTab : List Value := opRows.flatMap fun r => [.int .i64 r.1, .int .i64 r.2.1, .string ⟨r.2.2.1.toArray⟩, .int .i64 r.2.2.2]
def cvRows : List (Bs × Int) := [([84, 79, 95, 73, 78, 84], 2), ([84, 79, 95, 68, 73, 78, 84], 3), ([84, 79, 95, 84, 73, 77, 69], 4)]
def cvTab : List Value := cvRows.flatMap fun r => [.string ⟨r.1.toArray⟩, .int .i64 r.2]
def twRows : List (Bs × Int) := [([66, 79, 79, 76], 1), ([73, 78, 84], 2), ([68, 73, 78, 84], 3), ([84, 73, 77, 69], 4), ([84, 79, 78], 101), ([84, 79, 70], 102), ([84, 80], 103), ([67, 84, 85], 104), ([67, 84, 68], 105), ([82, 95, 84, 82, 73, 71], 106), ([70, 95, 84, 82, 73, 71], 107), ([83, 82], 108), ([82, 83], 109), ([81, 85, 65, 68], 110)]
def twTab : List Value := twRows.flatMap fun r => [.string ⟨r.1.toArray⟩, .int .i64 r.2]
def swRows : List (Bs × Int) := [([86, 65, 82], 0), ([86, 65, 82, 95, 73, 78, 80, 85, 84], 1), ([86, 65, 82, 95, 79, 85, 84, 80, 85, 84], 2)]
def swTab : List Value := swRows.flatMap fun r => [.string ⟨r.1.toArray⟩, .int .i64 r.2]
structure Glo (w : World) : Prop where
  span : TabAt w 0 spanTab
  kw : TabAt w 1 kwTab
  ops : TabAt w 2 opTab
  conv : TabAt w 3 cvTab
  tw : TabAt w 4 twTab
  sw : TabAt w 5 swTab
theorem TabAt.below {B b : Nat} {w w' : World} {t : List Value} (h : TabAt w b t) (hb : Below B w w') (hB : b < B) : TabAt w' b t := fun k v e => (hb.cell (p := ⟨b, k, none⟩) hB).trans (h k v e)
theorem Glo.lt {w : World} (h : Glo w) : 5 < w.heap.size := World.block_lt_of_cell? w _ (h.sw 0 _ rfl)
theorem Glo.below {B : Nat} {w w' : World} (h : Glo w) (hb : Below B w w') (hB : 5 < B) : Glo w' :=
  ⟨h.span.below hb (by omega), h.kw.below hb (by omega), h.ops.below hb (by omega), h.conv.below hb (by omega), h.tw.below hb (by omega), h.sw.below hb (by omega)⟩
theorem Glo.on {w w' : World} (h : Glo w) (hb : Below w.heap.size w w') : Glo w' := h.below hb h.lt
theorem TabAt.alloc {b : Nat} {w : World} {t : List Value} (h : TabAt w b t) (hb : b < w.heap.size) (o : Obj) : TabAt (w.alloc o) b t := h.below ((Below.refl w.heap.size w).alloc (Nat.le_refl _) o) hb
theorem at_load {P : Program} {ops : Array Oper} {rest : List Oper} {a : Act} {w : World} {Q : Exit → Act → World → Prop} {pos : String} {after : Array Edge} {dst : Option Tmp} {ty ty' : TypeId} {x : Operand} {g : Option (Nat × Bool)}
    (h : wpList P ops Q ({ dst := dst, op := .load ty x, type := ty', pos := pos, after := after, guard := g } :: rest) a w) : wpList P ops Q ({ dst := dst, op := .load ty x, type := ty', pos := pos, after := after, guard := g } :: rest) a w := h
theorem load_tab {ops : Array Oper} {rest : List Oper} {a : Act} {w : World} {Q : Exit → Act → World → Prop} {pos : String} {after : Array Edge} {dst : Option Tmp} {ty ty' : TypeId} {x : Operand} {b : Nat} {t : List Value} {T : Value} {d : TypeDesc}
    (hx : a.eval x = .pointer (some ⟨b, 0, none⟩)) (h : TabAt w b t) (hT : Value.agg t.toArray = T) (hu : Tryz.prog.underlying ty = some d) (hd : d.isRow = true) (hi : (Tryz.prog.info? ty).map (·.size) = some t.length)
    (k : wpList Tryz.prog ops Q rest (a.put dst T) w) : wpList Tryz.prog ops Q ({ dst := dst, op := .load ty x, type := ty', pos := pos, after := after, guard := none } :: rest) a w :=
  wpList_load_mid rfl ty x rfl b 0 hx t d (fun j v e => by rw [Nat.zero_add]; exact h j v e) hu hd hi (by rw [hT]; exact k)
theorem index_cell {ty e : TypeId} {n : Nat} (hu : Tryz.prog.underlying ty = some (.array n e)) (ha : ∀ W, (isAgg e).run Tryz.prog W = .ok false W) (hz : ∀ W, (sizeOf e).run Tryz.prog W = .ok 1 W) (cs : Array Value) (k : Nat) (hk : k < n) (v : Value) (hv : cs[k]? = some v) (W : World) :
    (Instr.index ty (.agg cs) (.int .i64 (k : Int))).run Tryz.prog W = .ok v W := by
  simp only [Instr.index, asIntOf, Sem.run_bind, Sem.run_pure, Result.andThen_ok, run_underlying hu]
  rw [if_pos ⟨by omega, by omega⟩]
  simp only [Sem.run_bind, hz, Result.andThen_ok, part, ha, Bool.false_eq_true, if_false, Int.toNat_natCast, Nat.mul_one, hv, Sem.run_pure]
theorem index_row {ty e : TypeId} {n m : Nat} (hu : Tryz.prog.underlying ty = some (.array n e)) (ha : ∀ W, (isAgg e).run Tryz.prog W = .ok true W) (hz : ∀ W, (sizeOf e).run Tryz.prog W = .ok m W) (cs : Array Value) (k : Nat) (hk : k < n) (vs : Array Value) (hv : cs.extract (k * m) (k * m + m) = vs) (W : World) :
    (Instr.index ty (.agg cs) (.int .i64 (k : Int))).run Tryz.prog W = .ok (.agg vs) W := by
  simp only [Instr.index, asIntOf, Sem.run_bind, Sem.run_pure, Result.andThen_ok, run_underlying hu]
  rw [if_pos ⟨by omega, by omega⟩]
  simp only [Sem.run_bind, hz, Result.andThen_ok, part, ha, if_true, Int.toNat_natCast, hv, Sem.run_pure]
end Go.Proofs.YtldjiieckddhkaaGreatDoor
