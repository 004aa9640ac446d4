/- Expressions read from tokens, as plain functions (no program): names, the reader with a depth, and as a relation. | The program's tables in memory; tokens as values; the contract of num.Fits. -/
import Derived.Test.YtldjiieckddhkaaGreatDoorMg4
import Derived.Test.YtldjiieckddhkaaGreatDoorMg1
import Derived.Deep.MidRow
import Derived.Deep.DeepMust
import Derived.Deep.WholeRow
import Derived.Great.BuildSlice
namespace Go.Proofs.YtldjiieckddhkaaGreatDoor
/-- a part of an expression -/
structure Pt where
  kind : Int
  s : Bs
  f : Bs
  n : Int
  t : Int
def numP (n t : Int) : Pt := ⟨1, [], [], n, t⟩
def varP (s : Bs) : Pt := ⟨2, s, [], 0, 0⟩
def idxP (s : Bs) : Pt := ⟨3, s, [], 0, 0⟩
def fldP (s f : Bs) : Pt := ⟨4, s, f, 0, 0⟩
def opP (n : Int) : Pt := ⟨5, [], [], n, 0⟩
def toP (t : Int) : Pt := ⟨6, [], [], 0, t⟩
def kwB : List Bs := [[80, 82, 79, 71, 82, 65, 77], [69, 78, 68, 95, 80, 82, 79, 71, 82, 65, 77], [86, 65, 82], [86, 65, 82, 95, 73, 78, 80, 85, 84], [86, 65, 82, 95, 79, 85, 84, 80, 85, 84], [69, 78, 68, 95, 86, 65, 82], [65, 82, 82, 65, 89], [79, 70], [66, 79, 79, 76], [73, 78, 84], [68, 73, 78, 84], [84, 73, 77, 69], [84, 79, 78], [84, 79, 70], [84, 80], [67, 84, 85], [67, 84, 68], [82, 95, 84, 82, 73, 71], [70, 95, 84, 82, 73, 71], [83, 82], [82, 83], [81, 85, 65, 68], [73, 70], [84, 72, 69, 78], [69, 76, 83, 73, 70], [69, 76, 83, 69], [69, 78, 68, 95, 73, 70], [67, 65, 83, 69], [69, 78, 68, 95, 67, 65, 83, 69], [87, 72, 73, 76, 69], [68, 79], [69, 78, 68, 95, 87, 72, 73, 76, 69], [70, 79, 82], [84, 79], [66, 89], [69, 78, 68, 95, 70, 79, 82], [82, 69, 80, 69, 65, 84], [85, 78, 84, 73, 76], [69, 78, 68, 95, 82, 69, 80, 69, 65, 84], [69, 88, 73, 84], [82, 69, 84, 85, 82, 78], [65, 78, 68], [79, 82], [88, 79, 82], [78, 79, 84], [77, 79, 68], [84, 82, 85, 69], [70, 65, 76, 83, 69], [84, 79, 95, 73, 78, 84], [84, 79, 95, 68, 73, 78, 84], [84, 79, 95, 84, 73, 77, 69]]
def capC (c : UInt8) : Bool := (decide (65 ≤ c) && decide (c ≤ 90)) || (isDig c || decide (c = 95))
def wordB (s : Bs) : Bool := match s with
  | [] => false
  | c :: r => decide (r.length + 1 ≤ 24) && (!isDig c && (c :: r).all capC)
def nameB (s : Bs) : Bool := !(kwB.contains s) && wordB s
/-- the operations of a row, from the loosest on, and their numbers -/
def rowOps (n : Nat) : List (Int × Bs × Int) := match n with
  | 0 => [(1, [79, 82], 7)]
  | 1 => [(1, [88, 79, 82], 8)]
  | 2 => [(1, [65, 78, 68], 6), (3, [38], 6)]
  | 3 => [(3, [61], 9), (3, [60, 62], 10)]
  | 4 => [(3, [60], 11), (3, [60, 61], 12), (3, [62], 13), (3, [62, 61], 14)]
  | 5 => [(3, [43], 1), (3, [45], 2)]
  | 6 => [(3, [42], 3), (3, [47], 4), (1, [77, 79, 68], 5)]
  | _ => []
def opIn (n : Nat) (t : Tk) : Option Int := ((rowOps n).find? fun x => decide (x.1 = t.kind) && (x.2.1 == t.s)).map (·.2.2)
def isSign (s : Bs) (t : Tk) : Bool := decide (t.kind = 3) && (t.s == s)
def unOp (t : Tk) : Option Int := if t.kind = 3 ∧ t.s = [45] then some 15 else if t.kind = 1 ∧ t.s = [78, 79, 84] then some 16 else none
def toT (s : Bs) : Int := if s = [84, 79, 95, 73, 78, 84] then 2 else if s = [84, 79, 95, 68, 73, 78, 84] then 3 else if s = [84, 79, 95, 84, 73, 77, 69] then 4 else 0
def truB : Bs := [84, 82, 85, 69]
def falB : Bs := [70, 65, 76, 83, 69]
abbrev Res := Except (Nat × Int) (List Pt × List Tk)
/-- between two signs -/
def within (a b : Bs) (d : Nat) (l : List Tk) (go : List Tk → Option Res) : Option Res :=
  match l with
  | [] => some (.error (0, 60))
  | t :: q =>
    if isSign a t then
      (if 200 ≤ d then some (.error (q.length + 1, 2))
       else match go q with
        | none => none
        | some (.error e) => some (.error e)
        | some (.ok (x, r)) =>
          match r with
          | [] => some (.error (0, 60))
          | u :: r' => if isSign b u then some (.ok (x, r')) else some (.error (r'.length + 1, 60)))
    else some (.error (q.length + 1, 60))
def addP (p : Pt) : Option Res → Option Res
  | some (.ok (x, r)) => some (.ok (x ++ [p], r))
  | y => y
/-- behind a name -/
def named (s : Bs) (q : List Tk) (br : Option Res) : Option Res :=
  match q with
  | [] => some (.ok ([varP s], []))
  | u :: r =>
    if isSign [91] u then addP (idxP s) br
    else if isSign [46] u then
      (match r with
       | [] => some (.error (0, 60))
       | v :: r' => if v.kind = 1 then some (.ok ([fldP s v.s], r')) else some (.error (r'.length + 1, 60)))
    else some (.ok ([varP s], u :: r))
/-- what is read: a row of operations, those that follow, a value with its signs, a value -/
inductive Md
  | row (n : Nat)
  | loop (n : Nat)
  | una
  | pri
def rd : Nat → Md → Nat → List Tk → Option Res
  | 0, _, _, _ => none
  | f + 1, .row n, d, l =>
    if 7 ≤ n then rd f .una d l
    else match rd f (.row (n + 1)) d l with
      | some (.ok (x, r)) =>
        match rd f (.loop n) d r with
        | some (.ok (y, r')) => some (.ok (x ++ y, r'))
        | z => z
      | z => z
  | f + 1, .loop n, d, l =>
    match l with
    | [] => some (.ok ([], []))
    | t :: q =>
      match opIn n t with
      | none => some (.ok ([], t :: q))
      | some k =>
        match rd f (.row (n + 1)) d q with
        | some (.ok (x, r)) =>
          match rd f (.loop n) d r with
          | some (.ok (y, r')) => some (.ok (x ++ opP k :: y, r'))
          | z => z
        | z => z
  | f + 1, .una, d, l =>
    match l with
    | [] => rd f .pri d []
    | t :: q =>
      match unOp t with
      | none => rd f .pri d (t :: q)
      | some k => if 200 ≤ d then some (.error (q.length + 1, 2)) else addP (opP k) (rd f .una (d + 1) q)
  | f + 1, .pri, d, l =>
    match l with
    | [] => some (.error (0, 60))
    | t :: q =>
      if t.kind = 2 then some (.ok ([numP t.n t.ty], q))
      else if t.kind = 1 ∧ t.s = truB then some (.ok ([numP 1 1], q))
      else if t.kind = 1 ∧ t.s = falB then some (.ok ([numP 0 1], q))
      else if t.kind = 1 ∧ toT t.s ≠ 0 then addP (toP (toT t.s)) (within [40] [41] d q (rd f (.row 0) (d + 1)))
      else if t.kind = 1 ∧ nameB t.s = true then named t.s q (within [91] [93] d q (rd f (.row 0) (d + 1)))
      else within [40] [41] d (t :: q) (rd f (.row 0) (d + 1))
/-- how many values a part works on -/
def takes (p : Pt) : Nat := if p.kind = 3 ∨ p.kind = 6 then 1 else if p.kind = 5 ∧ (p.n = 15 ∨ p.n = 16) then 1 else if p.kind = 5 then 2 else 0
/-- the depths of what stands there, the last one first; none: a part lacks a value -/
def depths : List Pt → List Nat → Option (List Nat)
  | [], st => some st
  | p :: x, st =>
    if takes p = 0 then depths x (1 :: st)
    else if takes p = 1 then (match st with
      | a :: r => depths x ((a + 1) :: r)
      | [] => none)
    else (match st with
      | a :: b :: r => depths x ((max a b + 1) :: r)
      | _ => none)
def depth (x : List Pt) : Nat := match depths x [] with
  | some [d] => d
  | _ => 0
def fuel (l : List Tk) : Nat := 12 * l.length + 12
def parse (l : List Tk) : Except (Nat × Int) (List Pt × List Tk) := match rd (fuel l) (.row 0) 0 l with
  | none => .error (0, -1)
  | some (.error e) => .error e
  | some (.ok (x, r)) => if 500 < x.length ∨ 24 < depth x then .error (l.length, 2) else .ok (x, r)
end Go.Proofs.YtldjiieckddhkaaGreatDoor
namespace Go.Proofs.YtldjiieckddhkaaGreatDoor
open Go.RowKit
def spanTab : List Value := [.int .i64 0, .int .i64 0, .int .i64 0, .int .i64 1, .int .i64 (-32768), .int .i64 32767, .int .i64 (-2147483648), .int .i64 2147483647, .int .i64 (-2147483648), .int .i64 2147483647]
/-- a table's cells lie in a block -/
def TabAt (w : World) (b : Nat) (t : List Value) : Prop := ∀ k v, t[k]? = some v → w.cell? ⟨b, k, none⟩ = some v
/-- the texts of the keywords, as cells -/
def kwTab : List Value := kwB.map fun s => .string ⟨s.toArray⟩
/-- the operations: row, kind, text, number -/
def opRows : List (Int × Int × Bs × Int) := [(0, 1, [79, 82], 7), (1, 1, [88, 79, 82], 8), (2, 1, [65, 78, 68], 6), (2, 3, [38], 6), (3, 3, [61], 9), (3, 3, [60, 62], 10), (4, 3, [60], 11), (4, 3, [60, 61], 12), (4, 3, [62], 13), (4, 3, [62, 61], 14), (5, 3, [43], 1), (5, 3, [45], 2), (6, 3, [42], 3), (6, 3, [47], 4), (6, 1, [77, 79, 68], 5), (7, 1, [78, 79, 84], 16), (7, 3, [45], 15)]
def opTab : List Value := opRows.flatMap fun r => [.int .i64 r.1, .int .i64 r.2.1, .string ⟨r.2.2.1.toArray⟩, .int .i64 r.2.2.2]
def cvRows : List (Bs × Int) := [([84, 79, 95, 73, 78, 84], 2), ([84, 79, 95, 68, 73, 78, 84], 3), ([84, 79, 95, 84, 73, 77, 69], 4)]
def cvTab : List Value := cvRows.flatMap fun r => [.string ⟨r.1.toArray⟩, .int .i64 r.2]
/-- the words of types, and of sections, with their numbers -/
def twRows : List (Bs × Int) := [([66, 79, 79, 76], 1), ([73, 78, 84], 2), ([68, 73, 78, 84], 3), ([84, 73, 77, 69], 4), ([84, 79, 78], 101), ([84, 79, 70], 102), ([84, 80], 103), ([67, 84, 85], 104), ([67, 84, 68], 105), ([82, 95, 84, 82, 73, 71], 106), ([70, 95, 84, 82, 73, 71], 107), ([83, 82], 108), ([82, 83], 109), ([81, 85, 65, 68], 110)]
def twTab : List Value := twRows.flatMap fun r => [.string ⟨r.1.toArray⟩, .int .i64 r.2]
def swRows : List (Bs × Int) := [([86, 65, 82], 0), ([86, 65, 82, 95, 73, 78, 80, 85, 84], 1), ([86, 65, 82, 95, 79, 85, 84, 80, 85, 84], 2)]
def swTab : List Value := swRows.flatMap fun r => [.string ⟨r.1.toArray⟩, .int .i64 r.2]
/-- the program's variables -/
structure Glo (w : World) : Prop where
  span : TabAt w 0 spanTab
  kw : TabAt w 1 kwTab
  ops : TabAt w 2 opTab
  conv : TabAt w 3 cvTab
  tw : TabAt w 4 twTab
  sw : TabAt w 5 swTab
theorem TabAt.below {B b : Nat} {w w' : World} {t : List Value} (h : TabAt w b t) (hb : Below B w w') (hB : b < B) : TabAt w' b t := fun k v e => (hb.cell (p := ⟨b, k, none⟩) hB).trans (h k v e)
theorem Glo.lt {w : World} (h : Glo w) : 5 < w.heap.size := World.block_lt_of_cell? w _ (h.sw 0 _ rfl)
theorem Glo.below {B : Nat} {w w' : World} (h : Glo w) (hb : Below B w w') (hB : 5 < B) : Glo w' :=
  ⟨h.span.below hb (by omega), h.kw.below hb (by omega), h.ops.below hb (by omega), h.conv.below hb (by omega), h.tw.below hb (by omega), h.sw.below hb (by omega)⟩
theorem Glo.on {w w' : World} (h : Glo w) (hb : Below w.heap.size w w') : Glo w' := h.below hb h.lt
theorem TabAt.alloc {b : Nat} {w : World} {t : List Value} (h : TabAt w b t) (hb : b < w.heap.size) (o : Obj) : TabAt (w.alloc o) b t := h.below ((Below.refl w.heap.size w).alloc (Nat.le_refl _) o) hb
theorem at_load {P : Program} {ops : Array Oper} {rest : List Oper} {a : Act} {w : World} {Q : Exit → Act → World → Prop} {pos : String} {after : Array Edge} {dst : Option Tmp} {ty ty' : TypeId} {x : Operand} {g : Option (Nat × Bool)}
    (h : wpList P ops Q ({ dst := dst, op := .load ty x, type := ty', pos := pos, after := after, guard := g } :: rest) a w) : wpList P ops Q ({ dst := dst, op := .load ty x, type := ty', pos := pos, after := after, guard := g } :: rest) a w := h
/-- a whole table is loaded as a value T -/
theorem load_tab {ops : Array Oper} {rest : List Oper} {a : Act} {w : World} {Q : Exit → Act → World → Prop} {pos : String} {after : Array Edge} {dst : Option Tmp} {ty ty' : TypeId} {x : Operand} {b : Nat} {t : List Value} {T : Value} {d : TypeDesc}
    (hx : a.eval x = .pointer (some ⟨b, 0, none⟩)) (h : TabAt w b t) (hT : Value.agg t.toArray = T) (hu : Tryz.prog.underlying ty = some d) (hd : d.isRow = true) (hi : (Tryz.prog.info? ty).map (·.size) = some t.length)
    (k : wpList Tryz.prog ops Q rest (a.put dst T) w) : wpList Tryz.prog ops Q ({ dst := dst, op := .load ty x, type := ty', pos := pos, after := after, guard := none } :: rest) a w :=
  wpList_load_mid rfl ty x rfl b 0 hx t d (fun j v e => by rw [Nat.zero_add]; exact h j v e) hu hd hi (by rw [hT]; exact k)
/-- one cell of a table -/
theorem index_cell {ty e : TypeId} {n : Nat} (hu : Tryz.prog.underlying ty = some (.array n e)) (ha : ∀ W, (isAgg e).run Tryz.prog W = .ok false W) (hz : ∀ W, (sizeOf e).run Tryz.prog W = .ok 1 W) (cs : Array Value) (k : Nat) (hk : k < n) (v : Value) (hv : cs[k]? = some v) (W : World) :
    (Instr.index ty (.agg cs) (.int .i64 (k : Int))).run Tryz.prog W = .ok v W := by
  simp only [Instr.index, asIntOf, Sem.run_bind, Sem.run_pure, Result.andThen_ok, run_underlying hu]
  rw [if_pos ⟨by omega, by omega⟩]
  simp only [Sem.run_bind, hz, Result.andThen_ok, part, ha, Bool.false_eq_true, if_false, Int.toNat_natCast, Nat.mul_one, hv, Sem.run_pure]
/-- one row of a table -/
theorem index_row {ty e : TypeId} {n m : Nat} (hu : Tryz.prog.underlying ty = some (.array n e)) (ha : ∀ W, (isAgg e).run Tryz.prog W = .ok true W) (hz : ∀ W, (sizeOf e).run Tryz.prog W = .ok m W) (cs : Array Value) (k : Nat) (hk : k < n) (vs : Array Value) (hv : cs.extract (k * m) (k * m + m) = vs) (W : World) :
    (Instr.index ty (.agg cs) (.int .i64 (k : Int))).run Tryz.prog W = .ok (.agg vs) W := by
  simp only [Instr.index, asIntOf, Sem.run_bind, Sem.run_pure, Result.andThen_ok, run_underlying hu]
  rw [if_pos ⟨by omega, by omega⟩]
  simp only [Sem.run_bind, hz, Result.andThen_ok, part, ha, if_true, Int.toNat_natCast, hv, Sem.run_pure]
end Go.Proofs.YtldjiieckddhkaaGreatDoor
