/- Names: plain; tables in memory. -/
import Derived.Test.YtmbgcpmapaedcaaDoorN4Leaf
import Derived.Deep.MidRow
import Derived.Deep.DeepMust
import Derived.Deep.WholeRow
import Derived.Great.BuildSlice
namespace Go.Proofs.YtmbgcpmapaedcaaDoor.Ex
open Go.RowKit
abbrev Bs := List UInt8
def isDig (c : UInt8) : Bool := decide (48 ≤ c) && decide (c ≤ 57)
def kwB : List Bs := [[80, 82, 79, 71, 82, 65, 77], [69, 78, 68, 95, 80, 82, 79, 71, 82, 65, 77], [86, 65, 82], [86, 65, 82, 95, 73, 78, 80, 85, 84], [86, 65, 82, 95, 79, 85, 84, 80, 85, 84], [69, 78, 68, 95, 86, 65, 82], [65, 82, 82, 65, 89], [79, 70], [66, 79, 79, 76], [73, 78, 84], [68, 73, 78, 84], [84, 73, 77, 69], [84, 79, 78], [84, 79, 70], [84, 80], [67, 84, 85], [67, 84, 68], [82, 95, 84, 82, 73, 71], [70, 95, 84, 82, 73, 71], [83, 82], [82, 83], [81, 85, 65, 68], [73, 70], [84, 72, 69, 78], [69, 76, 83, 73, 70], [69, 76, 83, 69], [69, 78, 68, 95, 73, 70], [67, 65, 83, 69], [69, 78, 68, 95, 67, 65, 83, 69], [87, 72, 73, 76, 69], [68, 79], [69, 78, 68, 95, 87, 72, 73, 76, 69], [70, 79, 82], [84, 79], [66, 89], [69, 78, 68, 95, 70, 79, 82], [82, 69, 80, 69, 65, 84], [85, 78, 84, 73, 76], [69, 78, 68, 95, 82, 69, 80, 69, 65, 84], [69, 88, 73, 84], [82, 69, 84, 85, 82, 78], [65, 78, 68], [79, 82], [88, 79, 82], [78, 79, 84], [77, 79, 68], [84, 82, 85, 69], [70, 65, 76, 83, 69], [84, 79, 95, 73, 78, 84], [84, 79, 95, 68, 73, 78, 84], [84, 79, 95, 84, 73, 77, 69]]
def capC (c : UInt8) : Bool := (decide (65 ≤ c) && decide (c ≤ 90)) || (isDig c || decide (c = 95))
def wordB (s : Bs) : Bool := match s with
  | [] => false
  | c :: r => decide (r.length + 1 ≤ 24) && (!isDig c && (c :: r).all capC)
def nameB (s : Bs) : Bool := !(kwB.contains s) && wordB s
theorem hide {p : Prop} (h : p) : Hid p := h
theorem ret_bool {a b : Bool} (h : a = b) : Ending.returned (.bool a) = .returned (.bool b) := by rw [h]
theorem ret_int {k : IntKind} {a b : Int} (h : a = b) : Ending.returned (.int k a) = .returned (.int k b) := by rw [h]
theorem text_len (s : ByteArray) : s.data.toList.length = s.size := by rw [Array.length_toList]; rfl
theorem text_ext {a b : ByteArray} (h : a.data.toList = b.data.toList) : a = b := ByteArray.ext (Array.toList_inj.1 h)
theorem list_size (l : List UInt8) : (⟨l.toArray⟩ : ByteArray).size = l.length := by show l.toArray.size = _; simp
theorem of_list (t : ByteArray) (l : List UInt8) (h : t.data.toList = l) : t = ⟨l.toArray⟩ := text_ext (by rw [h])
theorem to_list (t : ByteArray) : t = ⟨t.data.toList.toArray⟩ := of_list _ _ rfl
theorem u8_le {a b : UInt8} : a ≤ b ↔ (a.toNat : Int) ≤ (b.toNat : Int) := by rw [UInt8.le_iff_toNat_le]; omega
theorem u8_eq {a b : UInt8} : a = b ↔ (a.toNat : Int) = (b.toNat : Int) := by rw [← UInt8.toNat_inj]; omega
theorem dig_int (c : UInt8) : isDig c = (decide ((48 : Int) ≤ (c.toNat : Int)) && decide ((c.toNat : Int) ≤ 57)) := by
  unfold isDig
  rw [Bool.eq_iff_iff]
  simp only [Bool.and_eq_true, decide_eq_true_eq, u8_le]
  exact Iff.rfl
theorem byte_lt (c : UInt8) : (c.toNat : Int) < 256 := by have := c.toNat_lt; omega
theorem run_idx (s : ByteArray) (k : Nat) (c : UInt8) (h : s.data.toList[k]? = some c) (W : World) : (Instr.index 9 (.string s) (.int .i64 (k : Int))).run Tryd.prog W = .ok (.int .u8 (c.toNat : Int)) W := by
  have e : s[k]? = some c := by
    have hk : k < s.size := by rw [← text_len]; exact (List.getElem?_eq_some_iff.1 h).1
    rw [Array.getElem?_toList] at h
    have h' := (Array.getElem?_eq_some_iff.1 h).2
    simp [hk]; exact h'
  have hk : k < s.size := by rw [← text_len]; exact (List.getElem?_eq_some_iff.1 h).1
  simp only [Instr.index, asIntOf, Sem.run_bind, Sem.run_pure, Result.andThen_ok, run_underlying Tryd.underlying9]
  rw [if_pos (by omega), Int.toNat_natCast]
  simp [e]
def TabAt (w : World) (b : Nat) (t : List Value) : Prop := ∀ k v, t[k]? = some v → w.cell? ⟨b, k, none⟩ = some v
def kwTab : List Value := kwB.map fun s => .string ⟨s.toArray⟩
theorem TabAt.below {B b : Nat} {w w' : World} {t : List Value} (h : TabAt w b t) (hb : Below B w w') (hB : b < B) : TabAt w' b t := fun k v e => (hb.cell (p := ⟨b, k, none⟩) hB).trans (h k v e)
theorem TabAt.alloc {b : Nat} {w : World} {t : List Value} (h : TabAt w b t) (hb : b < w.heap.size) (o : Obj) : TabAt (w.alloc o) b t := h.below ((Below.refl w.heap.size w).alloc (Nat.le_refl _) o) hb
theorem at_load {P : Program} {ops : Array Oper} {rest : List Oper} {a : Act} {w : World} {Q : Exit → Act → World → Prop} {pos : String} {after : Array Edge} {dst : Option Tmp} {ty ty' : TypeId} {x : Operand} {g : Option (Nat × Bool)}
    (h : wpList P ops Q ({ dst := dst, op := .load ty x, type := ty', pos := pos, after := after, guard := g } :: rest) a w) : wpList P ops Q ({ dst := dst, op := .load ty x, type := ty', pos := pos, after := after, guard := g } :: rest) a w := h
theorem load_tab {ops : Array Oper} {rest : List Oper} {a : Act} {w : World} {Q : Exit → Act → World → Prop} {pos : String} {after : Array Edge} {dst : Option Tmp} {ty ty' : TypeId} {x : Operand} {b : Nat} {t : List Value} {T : Value} {d : TypeDesc}
    (hx : a.eval x = .pointer (some ⟨b, 0, none⟩)) (h : TabAt w b t) (hT : Value.agg t.toArray = T) (hu : Tryd.prog.underlying ty = some d) (hd : d.isRow = true) (hi : (Tryd.prog.info? ty).map (·.size) = some t.length)
    (k : wpList Tryd.prog ops Q rest (a.put dst T) w) : wpList Tryd.prog ops Q ({ dst := dst, op := .load ty x, type := ty', pos := pos, after := after, guard := none } :: rest) a w :=
  wpList_load_mid rfl ty x rfl b 0 hx t d (fun j v e => by rw [Nat.zero_add]; exact h j v e) hu hd hi (by rw [hT]; exact k)
theorem index_cell {ty e : TypeId} {n : Nat} (hu : Tryd.prog.underlying ty = some (.array n e)) (ha : ∀ W, (isAgg e).run Tryd.prog W = .ok false W) (hz : ∀ W, (sizeOf e).run Tryd.prog W = .ok 1 W) (cs : Array Value) (k : Nat) (hk : k < n) (v : Value) (hv : cs[k]? = some v) (W : World) :
    (Instr.index ty (.agg cs) (.int .i64 (k : Int))).run Tryd.prog W = .ok v W := by
  simp only [Instr.index, asIntOf, Sem.run_bind, Sem.run_pure, Result.andThen_ok, run_underlying hu]
  rw [if_pos ⟨by omega, by omega⟩]
  simp only [Sem.run_bind, hz, Result.andThen_ok, part, ha, Bool.false_eq_true, if_false, Int.toNat_natCast, Nat.mul_one, hv, Sem.run_pure]
theorem index_row {ty e : TypeId} {n m : Nat} (hu : Tryd.prog.underlying ty = some (.array n e)) (ha : ∀ W, (isAgg e).run Tryd.prog W = .ok true W) (hz : ∀ W, (sizeOf e).run Tryd.prog W = .ok m W) (cs : Array Value) (k : Nat) (hk : k < n) (vs : Array Value) (hv : cs.extract (k * m) (k * m + m) = vs) (W : World) :
    (Instr.index ty (.agg cs) (.int .i64 (k : Int))).run Tryd.prog W = .ok (.agg vs) W := by
  simp only [Instr.index, asIntOf, Sem.run_bind, Sem.run_pure, Result.andThen_ok, run_underlying hu]
  rw [if_pos ⟨by omega, by omega⟩]
  simp only [Sem.run_bind, hz, Result.andThen_ok, part, ha, if_true, Int.toNat_natCast, hv, Sem.run_pure]
end Go.Proofs.YtmbgcpmapaedcaaDoor.Ex