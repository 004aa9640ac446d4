/- The program's tables in memory; tokens as values; the contract of num.Fits. -/
import Derived.Test.YtkicbmjjbnblfaaGreatDoorDigW
import Derived.Test.YtkicbmjjbnblfaaGreatDoorLexB
import Derived.Deep.MidRow
import Derived.Deep.DeepMust
import Derived.Deep.WholeRow
import Derived.Great.BuildSlice
namespace Go.Proofs.YtkicbmjjbnblfaaGreatDoor
open Go.RowKit
def tyTab : List Value := [.string ⟨#[66, 79, 79, 76]⟩, .int .i64 1, .string ⟨#[73, 78, 84]⟩, .int .i64 2, .string ⟨#[68, 73, 78, 84]⟩, .int .i64 3, .string ⟨#[84]⟩, .int .i64 4, .string ⟨#[84, 73, 77, 69]⟩, .int .i64 4]
def baseTab : List Value := [.string ⟨#[50, 35]⟩, .int .i64 2, .string ⟨#[56, 35]⟩, .int .i64 8, .string ⟨#[49, 54, 35]⟩, .int .i64 16]
def signTab : List Value := [.string ⟨#[58, 61]⟩, .string ⟨#[60, 61]⟩, .string ⟨#[62, 61]⟩, .string ⟨#[60, 62]⟩, .string ⟨#[42, 42]⟩, .string ⟨#[46, 46]⟩, .string ⟨#[40]⟩, .string ⟨#[41]⟩, .string ⟨#[91]⟩, .string ⟨#[93]⟩, .string ⟨#[44]⟩, .string ⟨#[59]⟩, .string ⟨#[58]⟩, .string ⟨#[46]⟩, .string ⟨#[43]⟩, .string ⟨#[45]⟩, .string ⟨#[42]⟩, .string ⟨#[47]⟩, .string ⟨#[61]⟩, .string ⟨#[60]⟩, .string ⟨#[62]⟩, .string ⟨#[38]⟩]
def unitTab : List Value := [.string ⟨#[68]⟩, .int .i64 86400000, .string ⟨#[72]⟩, .int .i64 3600000, .string ⟨#[77]⟩, .int .i64 60000, .string ⟨#[83]⟩, .int .i64 1000, .string ⟨#[77, 83]⟩, .int .i64 1]
def spanTab : List Value := [.int .i64 0, .int .i64 0, .int .i64 0, .int .i64 1, .int .i64 (-32768), .int .i64 32767, .int .i64 (-2147483648), .int .i64 2147483647, .int .i64 (-2147483648), .int .i64 2147483647]
/-- a table's cells lie in a block -/
def TabAt (w : World) (b : Nat) (t : List Value) : Prop := ∀ k v, t[k]? = some v → w.cell? ⟨b, k, none⟩ = some v
/-- the texts of the keywords, as cells -/
def kwTab : List Value := kwB.map fun s => .string ⟨s.toArray⟩
/-- the operations: row, kind, text, number -/
def opRows : List (Int × Int × Bs × Int) := [(0, 1, [79, 82], 7), (1, 1, [88, 79, 82], 8), (2, 1, [65, 78, 68], 6), (2, 3, [38], 6), (3, 3, [61], 9), (3, 3, [60, 62], 10), (4, 3, [60], 11), (4, 3, [60, 61], 12), (4, 3, [62], 13), (4, 3, [62, 61], 14), (5, 3, [43], 1), (5, 3, [45], 2), (6, 3, [42], 3), (6, 3, [47], 4), (6, 1, [77, 79, 68], 5), (7, 1, [78, 79, 84], 16), (7, 3, [45], 15)]
def opTab : List Value := opRows.flatMap fun r => [.int .i64 r.1, .int .i64 r.2.1, .string ⟨r.2.2.1.toArray⟩, .int .i64 r.2.2.2]
def cvRows : List (Bs × Int) := [([84, 79, 95, 73, 78, 84], 2), ([84, 79, 95, 68, 73, 78, 84], 3), ([84, 79, 95, 84, 73, 77, 69], 4)]
def cvTab : List Value := cvRows.flatMap fun r => [.string ⟨r.1.toArray⟩, .int .i64 r.2]
/-- the program's variables, and whatever number the library's MaxLen holds -/
structure Glo (w : World) : Prop where
  conv : TabAt w 1 cvTab
  ops : TabAt w 2 opTab
  kw : TabAt w 0 kwTab
  base : TabAt w 4 baseTab
  sign : TabAt w 5 signTab
  span : TabAt w 3 spanTab
  ty : TabAt w 6 tyTab
  most : ∃ m, w.cell? ⟨7, 0, none⟩ = some (.int .i64 m)
  unit : TabAt w 8 unitTab
theorem TabAt.below {B b : Nat} {w w' : World} {t : List Value} (h : TabAt w b t) (hb : Below B w w') (hB : b < B) : TabAt w' b t := fun k v e => (hb.cell (p := ⟨b, k, none⟩) hB).trans (h k v e)
theorem Glo.lt {w : World} (h : Glo w) : 8 < w.heap.size := World.block_lt_of_cell? w _ (h.unit 0 _ rfl)
theorem Glo.below {B : Nat} {w w' : World} (h : Glo w) (hb : Below B w w') (hB : 8 < B) : Glo w' :=
  ⟨h.conv.below hb (by omega), h.ops.below hb (by omega), h.kw.below hb (by omega), h.base.below hb (by omega), h.sign.below hb (by omega), h.span.below hb (by omega), h.ty.below hb (by omega), h.most.imp fun _ e => (hb.cell (p := ⟨7, 0, none⟩) (by show 7 < B; omega)).trans e, h.unit.below hb (by omega)⟩
theorem Glo.on {w w' : World} (h : Glo w) (hb : Below w.heap.size w w') : Glo w' := h.below hb h.lt
/-- a token in memory -/
def tkA (t : Tk) (at' : Int) : Value := .agg #[.int .i64 t.kind, .string ⟨t.s.toArray⟩, .int .i64 t.n, .int .i64 t.ty, .int .i64 at']
/-- what a reader of one token answers -/
def TokOut (o : Option (Tk × Bs)) (L : Nat) (v : Value) : Prop :=
  match o with
  | some (t, r) => v = .tuple #[tkA t 0, .int .i64 ((L - r.length : Nat) : Int), .bool true]
  | none => ∃ t n, v = .tuple #[tkA t 0, .int .i64 n, .bool false]
theorem TabAt.alloc {b : Nat} {w : World} {t : List Value} (h : TabAt w b t) (hb : b < w.heap.size) (o : Obj) : TabAt (w.alloc o) b t := h.below ((Below.refl w.heap.size w).alloc (Nat.le_refl _) o) hb
theorem at_load {P : Program} {ops : Array Oper} {rest : List Oper} {a : Act} {w : World} {Q : Exit → Act → World → Prop} {pos : String} {after : Array Edge} {dst : Option Tmp} {ty ty' : TypeId} {x : Operand} {g : Option (Nat × Bool)}
    (h : wpList P ops Q ({ dst := dst, op := .load ty x, type := ty', pos := pos, after := after, guard := g } :: rest) a w) : wpList P ops Q ({ dst := dst, op := .load ty x, type := ty', pos := pos, after := after, guard := g } :: rest) a w := h
/-- a whole table is loaded as a value T -/
theorem load_tab {ops : Array Oper} {rest : List Oper} {a : Act} {w : World} {Q : Exit → Act → World → Prop} {pos : String} {after : Array Edge} {dst : Option Tmp} {ty ty' : TypeId} {x : Operand} {b : Nat} {t : List Value} {T : Value} {d : TypeDesc}
    (hx : a.eval x = .pointer (some ⟨b, 0, none⟩)) (h : TabAt w b t) (hT : Value.agg t.toArray = T) (hu : Tryz.prog.underlying ty = some d) (hd : d.isRow = true) (hi : (Tryz.prog.info? ty).map (·.size) = some t.length)
    (k : wpList Tryz.prog ops Q rest (a.put dst T) w) : wpList Tryz.prog ops Q ({ dst := dst, op := .load ty x, type := ty', pos := pos, after := after, guard := none } :: rest) a w :=
  wpList_load_mid rfl ty x rfl b 0 hx t d (fun j v e => by rw [Nat.zero_add]; exact h j v e) hu hd hi (by rw [hT]; exact k)
/-- one cell of a table -/
theorem index_cell {ty e : TypeId} {n : Nat} (hu : Tryz.prog.underlying ty = some (.array n e)) (ha : ∀ W, (isAgg e).run Tryz.prog W = .ok false W) (hz : ∀ W, (sizeOf e).run Tryz.prog W = .ok 1 W) (cs : Array Value) (k : Nat) (hk : k < n) (v : Value) (hv : cs[k]? = some v) (W : World) :
    (Instr.index ty (.agg cs) (.int .i64 (k : Int))).run Tryz.prog W = .ok v W := by
  simp only [Instr.index, asIntOf, Sem.run_bind, Sem.run_pure, Result.andThen_ok, run_underlying hu]
  rw [if_pos ⟨by omega, by omega⟩]
  simp only [Sem.run_bind, hz, Result.andThen_ok, part, ha, Bool.false_eq_true, if_false, Int.toNat_natCast, Nat.mul_one, hv, Sem.run_pure]
/-- one row of a table -/
theorem index_row {ty e : TypeId} {n m : Nat} (hu : Tryz.prog.underlying ty = some (.array n e)) (ha : ∀ W, (isAgg e).run Tryz.prog W = .ok true W) (hz : ∀ W, (sizeOf e).run Tryz.prog W = .ok m W) (cs : Array Value) (k : Nat) (hk : k < n) (vs : Array Value) (hv : cs.extract (k * m) (k * m + m) = vs) (W : World) :
    (Instr.index ty (.agg cs) (.int .i64 (k : Int))).run Tryz.prog W = .ok (.agg vs) W := by
  simp only [Instr.index, asIntOf, Sem.run_bind, Sem.run_pure, Result.andThen_ok, run_underlying hu]
  rw [if_pos ⟨by omega, by omega⟩]
  simp only [Sem.run_bind, hz, Result.andThen_ok, part, ha, if_true, Int.toNat_natCast, hv, Sem.run_pure]
end Go.Proofs.YtkicbmjjbnblfaaGreatDoor
