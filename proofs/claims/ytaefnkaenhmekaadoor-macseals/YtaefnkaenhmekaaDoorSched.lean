/- The schedule of a block, as plain lists of words. -/
import Derived.Test.YtaefnkaenhmekaaDoorLeaf
namespace Go.Proofs.YtaefnkaenhmekaaDoor
open Go.RowKit
def encW (x : BitVec 32) : Value := .int .u32 (V x)
def encB (b : UInt8) : Value := .int .u8 (b.toNat : Int)
def b32 (b : UInt8) : BitVec 32 := BitVec.ofNat 32 b.toNat
theorem V_b32 (b : UInt8) : V (b32 b) = (b.toNat : Int) := by
  unfold V b32
  rw [BitVec.toNat_ofNat, Nat.mod_eq_of_lt]
  have := b.toNat_lt; omega
theorem wrap_byte (b : UInt8) : IntKind.u32.wrap (b.toNat : Int) = V (b32 b) := by rw [← V_b32, wrap_V]
theorem cell_set_other (w : World) (g o h i : Nat) (v : Value) (hn : g ≠ h) : (w.setCell ⟨h, i, none⟩ v).cell? ⟨g, o, none⟩ = w.cell? ⟨g, o, none⟩ :=
  World.cell?_of_block (w := w) (a := ⟨g, o, none⟩) (heap_setCell_other w ⟨h, i, none⟩ g v hn)
theorem cell_set_off (w : World) (g o i : Nat) (v : Value) (hn : o ≠ i) : (w.setCell ⟨g, i, none⟩ v).cell? ⟨g, o, none⟩ = w.cell? ⟨g, o, none⟩ :=
  World.cell?_setCell_other _ _ _ _ (fun e => hn (by injection e with _ e2 _; exact e2.symm))
theorem heap_setRow_same (w : World) (g : Nat) (old cs : Array Value) (t : TypeId) (hg : w.heap[g]? = some (.cells old t (0, 0))) : (w.setRow g cs).heap[g]? = some (.cells cs t (0, 0)) := by
  simp [World.setRow, Array.getElem?_modify, hg]
theorem heap_setRow_other (w : World) (g k : Nat) (cs : Array Value) (h : k ≠ g) : (w.setRow g cs).heap[k]? = w.heap[k]? := by
  simp only [World.setRow, Array.getElem?_modify]
  rw [if_neg (by omega)]
theorem below_setRow (w : World) (B g : Nat) (cs : Array Value) (h : B ≤ g) : Below B w (w.setRow g cs) :=
  ⟨rfl, rfl, rfl, by simp, fun k hk => heap_setRow_other _ _ _ _ (by omega)⟩
theorem all_oneCell_encW (l : List (BitVec 32)) : (l.map encW).toArray.all (·.oneCell') = true := by
  simp [encW, Value.oneCell']
theorem all_oneCell_encB (l : List UInt8) : (l.map encB).toArray.all (·.oneCell') = true := by
  simp [encB, Value.oneCell']
/-- guards: the operation that stands next is a load, a store -/
theorem at_load {P : Program} {ops : Array Oper} {rest : List Oper} {a : Act} {w : World} {Q : Exit → Act → World → Prop} {pos : String} {after : Array Edge} {dst : Option Tmp} {ty ty' : TypeId} {x : Operand} {g : Option (Nat × Bool)}
    (h : wpList P ops Q ({ dst := dst, op := .load ty x, type := ty', pos := pos, after := after, guard := g } :: rest) a w) : wpList P ops Q ({ dst := dst, op := .load ty x, type := ty', pos := pos, after := after, guard := g } :: rest) a w := h
theorem at_store {P : Program} {ops : Array Oper} {rest : List Oper} {a : Act} {w : World} {Q : Exit → Act → World → Prop} {pos : String} {after : Array Edge} {dst : Option Tmp} {ty ty' : TypeId} {x y : Operand} {g : Option (Nat × Bool)}
    (h : wpList P ops Q ({ dst := dst, op := .store ty x y, type := ty', pos := pos, after := after, guard := g } :: rest) a w) : wpList P ops Q ({ dst := dst, op := .store ty x y, type := ty', pos := pos, after := after, guard := g } :: rest) a w := h
/-- a whole array is loaded, as the walk meets it -/
theorem load_arm {P : Program} {ops : Array Oper} {rest : List Oper} {a : Act} {w : World} {Q : Exit → Act → World → Prop} {pos : String} {after : Array Edge} (dst : Nat) (ty : TypeId) (x : Operand)
    (g : Nat) (t : TypeId) (cs : Array Value) (fr : Nat × Nat) (n : Nat) (e : TypeId) (hg : w.heap[g]? = some (.cells cs t fr))
    (hu : P.underlying ty = some (.array n e)) (hi : (P.info? ty).map (·.size) = some cs.size) (hx : a.eval x = .pointer (some ⟨g, 0, none⟩))
    (h : wpList P ops Q rest (a.put (some dst) (.agg cs)) w) : wpList P ops Q ({ dst := some dst, op := .load ty x, type := ty, pos := pos, after := after, guard := none } :: rest) a w :=
  wpList_load_row rfl ty x rfl g hx t cs fr _ hg hu rfl hi h
/-- a whole array is stored, as the walk meets it -/
theorem store_arm {P : Program} {ops : Array Oper} {rest : List Oper} {a : Act} {w : World} {Q : Exit → Act → World → Prop} {pos : String} {after : Array Edge} {ty' : TypeId} (ty : TypeId) (x y : Operand)
    (g : Nat) (cells : Array Value)
    (t : TypeId) (old : Array Value) (hg : w.heap[g]? = some (.cells old t (0, 0))) (hi : (P.info? ty).map (·.size) = some cells.size)
    (hold : old.size = cells.size) (h1 : cells.all (·.oneCell') = true) (hx : a.eval x = .pointer (some ⟨g, 0, none⟩)) (hy : a.eval y = .agg cells)
    (h : wpList P ops Q rest (a.put none undef) (w.setRow g cells)) : wpList P ops Q ({ dst := none, op := .store ty x y, type := ty', pos := pos, after := after, guard := none } :: rest) a w :=
  wpList_store_row rfl ty x y rfl g cells hx hy t old hg hi hold h1 h
def word4 (a b c d : UInt8) : BitVec 32 := (((b32 a <<< 24) ||| (b32 b <<< 16)) ||| (b32 c <<< 8)) ||| b32 d
def byteAt (bl : List UInt8) (i : Nat) : UInt8 := bl.getD i 0
def wordOf (bl : List UInt8) (t : Nat) : BitVec 32 := word4 (byteAt bl (4 * t)) (byteAt bl (4 * t + 1)) (byteAt bl (4 * t + 2)) (byteAt bl (4 * t + 3))
def at32 (ws : List (BitVec 32)) (i : Nat) : BitVec 32 := ws.getD i 0
def nextW (ws : List (BitVec 32)) : BitVec 32 := smlS1 (at32 ws (ws.length - 2)) + at32 ws (ws.length - 7) + smlS0 (at32 ws (ws.length - 15)) + at32 ws (ws.length - 16)
def stepW (bl : List UInt8) (ws : List (BitVec 32)) : List (BitVec 32) := ws ++ [if ws.length < 16 then wordOf bl ws.length else nextW ws]
def wk (bl : List UInt8) : Nat → List (BitVec 32)
  | 0 => []
  | n + 1 => stepW bl (wk bl n)
theorem wk_length (bl : List UInt8) (n : Nat) : (wk bl n).length = n := by
  induction n with
  | zero => rfl
  | succ n ih => simp [wk, stepW, ih]
theorem wk_lo (bl : List UInt8) (n : Nat) (h : n < 16) : wk bl (n + 1) = wk bl n ++ [wordOf bl n] := by
  rw [wk, stepW, wk_length, if_pos h]
theorem wk_hi (bl : List UInt8) (n : Nat) (h : 16 ≤ n) : wk bl (n + 1) = wk bl n ++ [smlS1 (at32 (wk bl n) (n - 2)) + at32 (wk bl n) (n - 7) + smlS0 (at32 (wk bl n) (n - 15)) + at32 (wk bl n) (n - 16)] := by
  rw [wk, stepW, wk_length, if_neg (by omega), nextW, wk_length]
/-- the words so far, then noughts -/
def fillW (ws : List (BitVec 32)) : Array Value := (ws.map encW ++ List.replicate (64 - ws.length) (Value.int .u32 0)).toArray
theorem fillW_get (ws : List (BitVec 32)) (i : Nat) (h : i < ws.length) : (fillW ws)[i]? = some (.int .u32 (V (at32 ws i))) := by
  unfold fillW at32
  rw [List.getElem?_toArray, List.getElem?_append_left (by simpa using h), List.getElem?_map, List.getElem?_eq_getElem h, List.getD_eq_getElem?_getD, List.getElem?_eq_getElem h]
  rfl
theorem fillW_size (ws : List (BitVec 32)) (h : ws.length ≤ 64) : (fillW ws).size = 64 := by
  unfold fillW; simp; omega
theorem fillW_set (ws : List (BitVec 32)) (x : BitVec 32) (h : ws.length < 64) : (fillW ws).setIfInBounds ws.length (.int .u32 (V x)) = fillW (ws ++ [x]) := by
  unfold fillW
  obtain ⟨n, hn⟩ : ∃ n, 64 - ws.length = n + 1 := ⟨64 - ws.length - 1, by omega⟩
  have h2 : 64 - (ws ++ [x]).length = n := by simp; omega
  rw [hn, h2]
  apply Array.ext'
  simp only [List.setIfInBounds_toArray, List.map_append, List.map_cons, List.map_nil, List.append_assoc, List.replicate_succ]
  rw [List.set_append_right _ _ (by simp)]
  simp [encW]
theorem fillW_full (ws : List (BitVec 32)) (h : ws.length = 64) : fillW ws = (ws.map encW).toArray := by
  unfold fillW; simp [h]
theorem blk_get (bl : List UInt8) (i : Nat) (h : i < bl.length) : (bl.map encB).toArray[i]? = some (.int .u8 ((byteAt bl i).toNat : Int)) := by
  unfold byteAt
  rw [List.getElem?_toArray, List.getElem?_map, List.getElem?_eq_getElem h, List.getD_eq_getElem?_getD, List.getElem?_eq_getElem h]
  rfl
/-- what stands in memory after k words -/
def SI (bl : List UInt8) (w wr : World) (k : Nat) : Prop :=
  wr.heap[w.heap.size]? = some (.cells (bl.map encB).toArray 46 (0, 0)) ∧ (∃ z, wr.heap[w.heap.size + 1]? = some (.cells z 58 (0, 0)) ∧ z.size = 64) ∧
     wr.heap[w.heap.size + 1 + 1]? = some (.cells (fillW (wk bl k)) 58 (0, 0)) ∧ Below w.heap.size w wr
theorem SI.blk {bl : List UInt8} {w wr : World} {k : Nat} (h : SI bl w wr k) (hl : bl.length = 64) (i : Nat) (hi : i < 64) :
    wr.cell? ⟨w.heap.size, i, none⟩ = some (.int .u8 ((byteAt bl i).toNat : Int)) :=
  (cell_of_row _ _ i _ _ _ h.1).trans (blk_get bl i (by omega))
theorem SI.word {bl : List UInt8} {w wr : World} {k : Nat} (h : SI bl w wr k) (i : Nat) (hi : i < k) :
    wr.cell? ⟨w.heap.size + 1 + 1, i, none⟩ = some (.int .u32 (V (at32 (wk bl k) i))) :=
  (cell_of_row _ _ i _ _ _ h.2.2.1).trans (fillW_get _ i (by rw [wk_length]; exact hi))
theorem SI.free {bl : List UInt8} {w wr : World} {k : Nat} (h : SI bl w wr k) (i : Nat) : wr.frozen? ⟨w.heap.size + 1 + 1, i, none⟩ = false :=
  frozen_of_row _ _ _ _ _ h.2.2.1
theorem SI.there {bl : List UInt8} {w wr : World} {k : Nat} (h : SI bl w wr k) (hk : k < 64) : ∃ v, wr.cell? ⟨w.heap.size + 1 + 1, k, none⟩ = some v := by
  rw [cell_of_row _ _ k _ _ _ h.2.2.1]
  exact ⟨_, Array.getElem?_eq_getElem (by rw [fillW_size _ (by rw [wk_length]; omega)]; omega)⟩
theorem SI.step {bl : List UInt8} {w wr : World} {k : Nat} (h : SI bl w wr k) (hk : k < 64) (x : BitVec 32) (hx : wk bl (k + 1) = wk bl k ++ [x]) :
    SI bl w (wr.setCell ⟨w.heap.size + 1 + 1, k, none⟩ (.int .u32 (V x))).drew (k + 1) := by
  obtain ⟨h1, ⟨z, h2, h3⟩, h4, h5⟩ := h
  have hs := fillW_set (wk bl k) x (by rw [wk_length]; omega)
  rw [wk_length] at hs
  refine ⟨?_, ⟨z, ?_, h3⟩, ?_, (h5.setCell (by simp; omega) _).drew⟩
  · rw [heap_drew, heap_setCell_other _ _ _ _ (by simp; omega)]; exact h1
  · rw [heap_drew, heap_setCell_other _ _ _ _ (by simp)]; exact h2
  · rw [heap_drew, heap_setCell_same _ _ _ _ _ _ h4, hs, hx]
theorem SI.start (bl : List UInt8) (w : World) (z z' : Array Value) (hz : z.size = 64) (hz' : z' = fillW []) :
    SI bl w (((w.alloc (.cells (bl.map encB).toArray 46)).alloc (.cells z 58)).alloc (.cells z' 58)) 0 := by
  subst hz'
  refine ⟨?_, ⟨z, ?_, hz⟩, ?_, ((((Below.refl _ _).alloc (Nat.le_refl _) _).alloc (by simp) _).alloc (by simp; omega) _)⟩
  · rw [heap_alloc_old _ _ (by simp; omega), heap_alloc_old _ _ (by simp), heap_alloc_new]
  · rw [heap_alloc_old _ _ (by simp), show w.heap.size + 1 = (w.alloc (.cells (bl.map encB).toArray 46)).heap.size from by simp, heap_alloc_new]
  · rw [show w.heap.size + 1 + 1 = ((w.alloc (.cells (bl.map encB).toArray 46)).alloc (.cells z 58)).heap.size from by simp, heap_alloc_new]; rfl
end Go.Proofs.YtaefnkaenhmekaaDoor
