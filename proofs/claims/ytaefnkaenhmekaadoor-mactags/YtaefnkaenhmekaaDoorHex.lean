/- Hexadecimal digits: plain lists. -/
import Derived.Test.YtaefnkaenhmekaaDoorAdd
namespace Go.Proofs.YtaefnkaenhmekaaDoor
open Go.RowKit
def hexD : List UInt8 := [48, 49, 50, 51, 52, 53, 54, 55, 56, 57, 97, 98, 99, 100, 101, 102]
def hexC (n : Nat) : UInt8 := hexD.getD n 0
def hexP (c : UInt8) : List UInt8 := [hexC (c.toNat / 16), hexC (c.toNat % 16)]
def hexL : List UInt8 → List UInt8
  | [] => []
  | c :: r => hexP c ++ hexL r
theorem hexL_length (l : List UInt8) : (hexL l).length = 2 * l.length := by
  induction l with
  | nil => rfl
  | cons x r ih => simp [hexL, hexP, ih]; omega
theorem hexL_append (l r : List UInt8) : hexL (l ++ r) = hexL l ++ hexL r := by
  induction l with
  | nil => rfl
  | cons x l ih => simp [hexL, ih]
theorem hexL_take (l : List UInt8) (k : Nat) (h : k < l.length) : hexL (l.take (k + 1)) = hexL (l.take k) ++ hexP l[k] := by
  rw [List.take_succ_eq_append_getElem h, hexL_append]; simp [hexL]
def HD : ByteArray := ⟨#[48, 49, 50, 51, 52, 53, 54, 55, 56, 57, 97, 98, 99, 100, 101, 102]⟩
theorem hex_at {P : Program} (W : World) (k : IntKind) (x : Int) (n : Nat) (hx : x = (n : Int)) (hn : n < 16) (hu : P.underlying 9 = some .string) : (Instr.index 9 (.string ⟨#[48, 49, 50, 51, 52, 53, 54, 55, 56, 57, 97, 98, 99, 100, 101, 102]⟩) (.int k x)).run P W = .ok (.int .u8 ((hexC n).toNat : Int)) W := by
  subst hx
  have h : ∀ n : Fin 16, (⟨#[48, 49, 50, 51, 52, 53, 54, 55, 56, 57, 97, 98, 99, 100, 101, 102]⟩ : ByteArray)[n.val]? = some (hexC n.val) := by decide +kernel
  have h1 := h ⟨n, hn⟩
  simp only [Instr.index, asIntOf, Sem.run_bind, Sem.run_pure, Result.andThen_ok, run_underlying hu]
  rw [if_pos (by omega), Int.toNat_natCast]
  simp [h1]
theorem and15 (b : UInt8) : bits .and .u8 (b.toNat : Int) 15 = ((b.toNat % 16 : Nat) : Int) := by
  have h : ∀ n : Fin 256, bits .and .u8 (n.val : Int) 15 = ((n.val % 16 : Nat) : Int) := by decide +kernel
  exact h ⟨b.toNat, b.toNat_lt⟩
end Go.Proofs.YtaefnkaenhmekaaDoor
