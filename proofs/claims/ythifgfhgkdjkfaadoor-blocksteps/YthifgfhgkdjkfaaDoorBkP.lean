/- What blocks do, plainly. -/
import Derived.Test.YthifgfhgkdjkfaaDoorNumP
import Derived.Test.YthifgfhgkdjkfaaDoorUnW
namespace Go.Proofs.YthifgfhgkdjkfaaDoor
open Go.RowKit
/-- the time that has gone -/
def goneN (now s : Int) : Int := wrN 4 (now - s)
theorem gone_two {now s : Int} (h1 : fitB 4 now = true) (h2 : fitB 4 s = true) : twoN 2 4 now s = (goneN now s, 0) := by
  rw [two_plain (by decide) h1 h2 (by omega)]
  rfl
theorem add_two {a b : Int} (h1 : fitB 3 a = true) (h2 : fitB 3 b = true) : twoN 1 3 a b = (wrN 3 (a + b), 0) := two_add (Or.inr rfl) h1 h2
structure Tm where
  i : Bool
  p : Int
  q : Bool
  e : Int
  s : Int
  r : Bool
structure Cn where
  c : Bool
  b : Bool
  p : Int
  q : Bool
  v : Int
  m : Bool
structure Tr where
  a : Bool
  b : Bool
  c : Bool
structure Cd where
  a : Bool
  b : Bool
  r : Bool
  v : Int
  e : Bool
  l : Int
def Tm.ob (t : Tm) : Array Value := #[.bool t.i, .int .i64 t.p, .bool t.q, .int .i64 t.e, .int .i64 t.s, .bool t.r]
def Cn.ob (t : Cn) : Array Value := #[.bool t.c, .bool t.b, .int .i64 t.p, .bool t.q, .int .i64 t.v, .bool t.m]
def Tr.ob (t : Tr) : Array Value := #[.bool t.a, .bool t.b, .bool t.c]
def Cd.ob (t : Cd) : Array Value := #[.bool t.a, .bool t.b, .bool t.r, .int .i64 t.v, .bool t.e, .int .i64 t.l]
def Tm.ls (t : Tm) : List Int := [flagN t.i, t.p, flagN t.q, t.e, t.s, flagN t.r]
def Cn.ls (t : Cn) : List Int := [flagN t.c, flagN t.b, t.p, flagN t.q, t.v, flagN t.m]
def Tr.ls (t : Tr) : List Int := [flagN t.a, flagN t.b, flagN t.c]
def Cd.ls (t : Cd) : List Int := [flagN t.a, flagN t.b, flagN t.r, t.v, flagN t.e, t.l]
def tonT (now : Int) (t : Tm) : Tm :=
  if t.i then ⟨t.i, t.p, decide (t.p ≤ goneN now (if t.r then t.s else now)), min (goneN now (if t.r then t.s else now)) t.p, if t.r then t.s else now, true⟩
  else ⟨t.i, t.p, false, 0, t.s, false⟩
def tofT (now : Int) (t : Tm) : Tm :=
  if t.i then ⟨t.i, t.p, true, 0, t.s, false⟩
  else if t.q then ⟨t.i, t.p, !decide (t.p ≤ goneN now (if t.r then t.s else now)), min (goneN now (if t.r then t.s else now)) t.p, if t.r then t.s else now, !decide (t.p ≤ goneN now (if t.r then t.s else now))⟩
  else t
/-- a pulse's beginning, its time, its end -/
def tpA (now : Int) (t : Tm) : Tm := if !t.r && (t.i && t.e == 0) then ⟨t.i, t.p, t.q, t.e, now, true⟩ else t
def tpB (now : Int) (t : Tm) : Tm := if t.r then ⟨t.i, t.p, !decide (t.p ≤ goneN now t.s), min (goneN now t.s) t.p, t.s, !decide (t.p ≤ goneN now t.s)⟩ else t
def tpC (t : Tm) : Tm := if !t.r && !t.i then ⟨t.i, t.p, t.q, 0, t.s, t.r⟩ else t
def tpT (now : Int) (t : Tm) : Tm := tpC (tpB now (tpA now t))
def ctuV (t : Cn) : Int := if t.b then 0 else if t.c && !t.m && decide (t.v < 32767) then t.v + 1 else t.v
def ctuT (t : Cn) : Cn := ⟨t.c, t.b, t.p, decide (t.p ≤ ctuV t), ctuV t, t.c⟩
def ctdV (t : Cn) : Int := if t.b then t.p else if t.c && !t.m && decide (-32768 < t.v) then t.v - 1 else t.v
def ctdT (t : Cn) : Cn := ⟨t.c, t.b, t.p, decide (ctdV t ≤ 0), ctdV t, t.c⟩
def rT (t : Tr) : Tr := ⟨t.a, t.a && !t.c, t.a⟩
def fT (t : Tr) : Tr := ⟨t.a, !t.a && t.c, t.a⟩
def srT (t : Tr) : Tr := ⟨t.a, t.b, t.a || (!t.b && t.c)⟩
def rsT (t : Tr) : Tr := ⟨t.a, t.b, !t.b && (t.a || t.c)⟩
def folT (n : Nat) (t : Cd) : Cd := if jmp (t.l - 1).toNat n then ⟨t.a, t.b, t.r, t.v, true, t.l⟩ else ⟨t.a, t.b, t.r, wrN 3 (t.v + stp (t.l - 1).toNat n), t.e, t.l⟩
def lst5 (n : Nat) (t : Cd) : Cd := ⟨t.a, t.b, t.r, t.v, t.e, (n : Int) + 1⟩
def cdT (t : Cd) : Cd := lst5 (pn t.a t.b) (if t.r then ⟨t.a, t.b, t.r, 0, false, t.l⟩ else if 1 ≤ t.l ∧ t.l ≤ 4 then folT (pn t.a t.b) t else t)
end Go.Proofs.YthifgfhgkdjkfaaDoor
