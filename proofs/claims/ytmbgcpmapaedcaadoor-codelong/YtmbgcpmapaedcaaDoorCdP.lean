/- Images: plain definitions, and slices of instructions in memory. -/
import Derived.Test.YtmbgcpmapaedcaaDoorCaW
import Derived.Test.YtmbgcpmapaedcaaDoorExEwW
import Derived.Test.YtmbgcpmapaedcaaDoorN4FitW
namespace Go.Proofs.YtmbgcpmapaedcaaDoor
open Go.RowKit
/-- an instruction -/
structure Ins where
  op : Int
  a : Int
  b : Int
  n : Int
deriving DecidableEq
/-- an image -/
structure Img where
  name : List UInt8
  ty : List Int
  fi : List Int
  ins : List Int
  outs : List Int
  cd : List Ins
def inB (c : Int) (n : Nat) : Bool := decide (0 ≤ c) && decide (c < (n : Int))
def fromB (n : Nat) (c m : Int) : Bool := inB c n && decide (m ≤ (n : Int) - c)
def arrB (ty : List Int) (a b : Int) : Bool := decide (1 ≤ b) && (decide (b ≤ 32) && (fromB ty.length a b && ((ty.drop a.toNat).take b.toNat).all fun t => t == ty.getD a.toNat 0))
def fldT (k : Int) : List Int := (fldK k).map Prod.fst
def blkB (ty : List Int) (k b : Int) : Bool := kindOk k && (fromB ty.length b ((fldK k).length : Int) && ((ty.drop b.toNat).take (fldK k).length == fldT k))
/-- what of an instruction must be 0 -/
def hasN (op : Int) : Nat := if op = 1 then 5 else if op = 2 ∨ op = 3 ∨ op = 9 ∨ op = 10 then 1 else if op = 12 then 0 else 3
def zeroB (h : Nat) (i : Ins) : Bool := (decide (h % 2 ≠ 0) || decide (i.a = 0)) && ((decide (h / 2 % 2 ≠ 0) || decide (i.b = 0)) && (decide (h / 4 % 2 ≠ 0) || decide (i.n = 0)))
def rightB (ty : List Int) (m : Nat) (i : Ins) : Bool :=
  if i.op = 1 then Four.fitB i.a i.n
  else if i.op = 2 ∨ i.op = 3 then inB i.a ty.length
  else if i.op = 4 ∨ i.op = 5 then arrB ty i.a i.b
  else if i.op = 6 then Four.has2 i.a i.b
  else if i.op = 7 then Four.has1 i.a i.b
  else if i.op = 8 then Four.tyB i.a && (Four.tyB i.b && decide ((i.a = 1) ↔ (i.b = 1)))
  else if i.op = 9 ∨ i.op = 10 then inB i.a m
  else if i.op = 11 then blkB ty i.a i.b else true
def mayI (ty : List Int) (m : Nat) (i : Ins) : Bool := (decide (1 ≤ i.op) && decide (i.op ≤ 12)) && (zeroB (hasN i.op) i && rightB ty m i)
/-- cells, none of them twice, nor among those ahead -/
def lineB (n : Nat) : List Int → List Int → Bool
  | _, [] => true
  | seen, c :: r => inB c n && (!(seen.contains c) && lineB n (c :: seen) r)
def cellB (x : Img) : Bool := decide (x.ty.length = x.fi.length) && (decide (x.ty.length ≤ 1024) && (List.zipWith Four.fitB x.ty x.fi).all id)
def frameB (x : Img) : Bool := Ex.nameB x.name && (cellB x && (lineB x.ty.length [] (x.ins ++ x.outs) && (decide (1 ≤ x.cd.length) && decide (x.cd.length ≤ 4096))))
/-- the first instruction that may not be -/
def badAt (ty : List Int) (m : Nat) : Nat → List Ins → Option Nat
  | _, [] => none
  | k, i :: r => if mayI ty m i then badAt ty m (k + 1) r else some k
def chkP (x : Img) : Int × Int := if frameB x then (match badAt x.ty x.cd.length 0 x.cd with | none => (0, 0) | some k => ((k : Int), 130)) else (-1, 130)
/-- a slice of instructions -/
def ISt (w : World) (v : Value) (l : List Ins) : Prop :=
  ∃ a b off cap, v = .slice a l.length cap ∧ (0 < l.length → b < w.heap.size ∧ a = some ⟨b, off, none⟩) ∧
    ∀ i q, l[i]? = some q → w.cell? ⟨b, off + i * 4, none⟩ = some (.int .i64 q.op) ∧ w.cell? ⟨b, off + i * 4 + 1, none⟩ = some (.int .i64 q.a) ∧ w.cell? ⟨b, off + i * 4 + 2, none⟩ = some (.int .i64 q.b) ∧ w.cell? ⟨b, off + i * 4 + 3, none⟩ = some (.int .i64 q.n)
theorem ISt.on {w w' : World} {v : Value} {l : List Ins} (h : ISt w v l) (hb : Below w.heap.size w w') : ISt w' v l := by
  obtain ⟨a, b, off, cap, rfl, h0, hI⟩ := h
  refine ⟨a, b, off, cap, rfl, fun h => ⟨by have := hb.size; have := (h0 h).1; omega, (h0 h).2⟩, fun i q hq => ?_⟩
  have hlt : b < w.heap.size := (h0 (by have := (List.getElem?_eq_some_iff.1 hq).1; omega)).1
  obtain ⟨h1, h2, h3, h4⟩ := hI i q hq
  exact ⟨(hb.cell (p := ⟨b, _, none⟩) hlt).trans h1, (hb.cell (p := ⟨b, _, none⟩) hlt).trans h2, (hb.cell (p := ⟨b, _, none⟩) hlt).trans h3, (hb.cell (p := ⟨b, _, none⟩) hlt).trans h4⟩
/-- an image's six cells -/
structure Im (w : World) (nm tv fv iv ov cv : Value) (x : Img) : Prop where
  name : nm = .string ⟨x.name.toArray⟩
  ty : ILst w tv x.ty
  fi : ILst w fv x.fi
  ins : ILst w iv x.ins
  outs : ILst w ov x.outs
  cd : ISt w cv x.cd
theorem Im.on {w w' : World} {nm tv fv iv ov cv : Value} {x : Img} (h : Im w nm tv fv iv ov cv x) (hb : Below w.heap.size w w') : Im w' nm tv fv iv ov cv x :=
  ⟨h.name, h.ty.on hb, h.fi.on hb, h.ins.on hb, h.outs.on hb, h.cd.on hb⟩
end Go.Proofs.YtmbgcpmapaedcaaDoor
