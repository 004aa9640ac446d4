/- Plain facts on 32-bit words and bytes as the model's integers. -/
import Derived.WalkKit
namespace Go.Proofs.YtaefnkaenhmekaaDoor
open Go.RowKit

def V (x : BitVec 32) : Int := (x.toNat : Int)
theorem V_nonneg (x : BitVec 32) : 0 ≤ V x := by unfold V; omega
theorem V_lt (x : BitVec 32) : V x < 4294967296 := by unfold V; have := x.isLt; omega
theorem ofInt_V (x : BitVec 32) : BitVec.ofInt 32 (V x) = x := by
  unfold V; rw [BitVec.ofInt_natCast, BitVec.ofNat_toNat, BitVec.setWidth_eq]
theorem wrap_u32 (n : Int) : IntKind.u32.wrap n = V (BitVec.ofInt 32 n) := by
  unfold V
  rw [BitVec.toNat_ofInt]
  simp [IntKind.wrap, IntKind.bits, IntKind.signed]
  omega
theorem wrap_V (x : BitVec 32) : IntKind.u32.wrap (V x) = V x := by rw [wrap_u32, ofInt_V]
theorem wrap_add (x y : BitVec 32) : IntKind.u32.wrap (V x + V y) = V (x + y) := by
  rw [wrap_u32, BitVec.ofInt_add, ofInt_V, ofInt_V]
theorem bits_xor (x y : BitVec 32) : bits .xor .u32 (V x) (V y) = V (x ^^^ y) := by
  show IntKind.u32.wrap ((BitVec.ofInt 32 (V x) ^^^ BitVec.ofInt 32 (V y)).toNat : Int) = _
  rw [ofInt_V, ofInt_V]; exact wrap_V _
theorem bits_and (x y : BitVec 32) : bits .and .u32 (V x) (V y) = V (x &&& y) := by
  show IntKind.u32.wrap ((BitVec.ofInt 32 (V x) &&& BitVec.ofInt 32 (V y)).toNat : Int) = _
  rw [ofInt_V, ofInt_V]; exact wrap_V _
theorem bits_or (x y : BitVec 32) : bits .or .u32 (V x) (V y) = V (x ||| y) := by
  show IntKind.u32.wrap ((BitVec.ofInt 32 (V x) ||| BitVec.ofInt 32 (V y)).toNat : Int) = _
  rw [ofInt_V, ofInt_V]; exact wrap_V _
theorem bits_not (x : BitVec 32) : bits .xor .u32 4294967295 (V x) = V (~~~ x) := by
  show IntKind.u32.wrap ((BitVec.ofInt 32 4294967295 ^^^ BitVec.ofInt 32 (V x)).toNat : Int) = _
  rw [ofInt_V, show BitVec.ofInt 32 4294967295 = BitVec.allOnes 32 from by decide, BitVec.allOnes_xor]; exact wrap_V _
theorem unary_not_V (x : BitVec 32) : Op.unary .xor (.int .u32 (V x)) = pure (.int .u32 (V (~~~ x))) := by
  rw [unary_xor]
  show pure (Value.int .u32 (bits .xor .u32 4294967295 (V x))) = _
  rw [bits_not]
theorem bits_not' (x : BitVec 32) : bits .xor .u32 (if IntKind.u32.signed = true then -1 else IntKind.u32.max) (V x) = V (~~~ x) := bits_not x
theorem shl_V (x : BitVec 32) (yk : IntKind) (m : Nat) : Op.shift .shl .u32 (V x) yk (m : Int) = pure (.int .u32 (V (x <<< m))) := by
  rw [shift_shl_any _ _ _ _ (by omega), wrap_u32]
  congr 2
  apply congrArg
  apply BitVec.eq_of_toNat_eq
  unfold V
  rw [Int.toNat_natCast, BitVec.toNat_ofInt, BitVec.toNat_shiftLeft, Nat.shiftLeft_eq]
  show (((x.toNat : Int) * 2 ^ min m 32) % ((2 ^ 32 : Nat) : Int)).toNat = _
  have h : ((x.toNat : Int) * 2 ^ min m 32) = ((x.toNat * 2 ^ min m 32 : Nat) : Int) := by simp
  rw [h, ← Int.natCast_emod, Int.toNat_natCast]
  by_cases hm : m ≤ 32
  · rw [Nat.min_eq_left hm]
  · rw [Nat.min_eq_right (by omega)]
    have h2 : 2 ^ m = 2 ^ 32 * 2 ^ (m - 32) := by rw [← Nat.pow_add]; congr 1; omega
    rw [h2, Nat.mul_mod_left, ← Nat.mul_assoc, Nat.mul_comm x.toNat, Nat.mul_assoc, Nat.mul_mod_right]
theorem shr_V (x : BitVec 32) (yk : IntKind) (m : Nat) : Op.shift .shr .u32 (V x) yk (m : Int) = pure (.int .u32 (V (x >>> m))) := by
  rw [shift_shr_any _ _ _ _ (by omega)]
  congr 2
  unfold V
  rw [Int.toNat_natCast, BitVec.toNat_ushiftRight, Nat.shiftRight_eq_div_pow]
  show (x.toNat : Int) / 2 ^ min m 32 = _
  have h : (x.toNat : Int) / 2 ^ min m 32 = ((x.toNat / 2 ^ min m 32 : Nat) : Int) := by simp
  rw [h]
  congr 1
  by_cases hm : m ≤ 32
  · rw [Nat.min_eq_left hm]
  · rw [Nat.min_eq_right (by omega), Nat.div_eq_of_lt x.isLt, Nat.div_eq_of_lt]
    exact Nat.lt_of_lt_of_le x.isLt (Nat.pow_le_pow_right (by omega) (by omega))
theorem shl_any (x : BitVec 32) (yk : IntKind) (y : Int) (h : 0 ≤ y) : Op.shift .shl .u32 (V x) yk y = pure (.int .u32 (V (x <<< y.toNat))) := by
  have := shl_V x yk y.toNat
  rwa [show ((y.toNat : Nat) : Int) = y from by omega] at this
theorem shr_any (x : BitVec 32) (yk : IntKind) (y : Int) (h : 0 ≤ y) : Op.shift .shr .u32 (V x) yk y = pure (.int .u32 (V (x >>> y.toNat))) := by
  have := shr_V x yk y.toNat
  rwa [show ((y.toNat : Nat) : Int) = y from by omega] at this
/-- the count of a rotation to the left: 32 - n -/
theorem rot_count (n m : Nat) (h : n + m = 32) (hn : 0 < n) : bits .and .u64 (IntKind.u64.wrap (-(n : Int))) 31 = (m : Int) := by
  have h1 : ∀ k : Fin 33, 0 < k.val → bits .and .u64 (IntKind.u64.wrap (-(k.val : Int))) 31 = ((32 - k.val : Nat) : Int) := by decide +kernel
  have h2 := h1 ⟨n, by omega⟩ hn
  rw [show m = 32 - n from by omega]; exact h2
end Go.Proofs.YtaefnkaenhmekaaDoor
