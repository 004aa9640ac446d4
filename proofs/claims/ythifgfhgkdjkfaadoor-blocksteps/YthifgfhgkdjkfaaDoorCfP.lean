/- For the laws' walks: rows of one's own, remainders. -/
import Derived.Test.YthifgfhgkdjkfaaDoorCeW
namespace Go.Proofs.YthifgfhgkdjkfaaDoor
open Go.RowKit
theorem Ob.far {w : World} {g : Nat} {T : TypeId} {cs : Array Value} (h : Ob w g T cs) {b : Nat} (hb : g ≠ b) (k : Nat) (v : Value) : Ob (w.setCell ⟨b, k, none⟩ v) g T cs := (heap_setCell_other w ⟨b, k, none⟩ g v hb).trans h
theorem Ob.drew {w : World} {g : Nat} {T : TypeId} {cs : Array Value} (h : Ob w g T cs) (n : Nat) : Ob (w.drewN n) g T cs := h
theorem below_drewN {B : Nat} {a w : World} (h : Below B a w) (n : Nat) : Below B a (w.drewN n) := ⟨h.os, h.tape, h.output, h.size, h.block⟩
theorem rem2 (a : Int) : wrap64 ((IntKind.u64.wrap a).tmod 2) = 0 ∨ wrap64 ((IntKind.u64.wrap a).tmod 2) = 1 := by
  have h : IntKind.u64.wrap a = a % 18446744073709551616 := rfl
  rw [h, Int.tmod_eq_emod_of_nonneg (by omega)]
  have h2 : wrap64 (a % 18446744073709551616 % 2) = a % 18446744073709551616 % 2 := w64 (by omega) (by omega)
  rw [h2]
  omega
theorem rem_up (a m : Int) (h0 : 0 < m) (h1 : m ≤ 1000000) : ∃ r : Int, 0 ≤ r ∧ r < m ∧ wrap64 ((IntKind.u64.wrap a).tmod m) = r := by
  have h : IntKind.u64.wrap a = a % 18446744073709551616 := rfl
  have n1 := Int.emod_nonneg (a % 18446744073709551616) (show m ≠ 0 by omega)
  have n2 := Int.emod_lt_of_pos (a % 18446744073709551616) h0
  refine ⟨a % 18446744073709551616 % m, n1, n2, ?_⟩
  rw [h, Int.tmod_eq_emod_of_nonneg (by omega)]
  exact w64 (by omega) (by omega)
end Go.Proofs.YthifgfhgkdjkfaaDoor
