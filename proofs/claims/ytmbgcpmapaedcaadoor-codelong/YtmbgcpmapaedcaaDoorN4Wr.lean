/- The contracts of wrapping: the program's wrapped, the document's Wrapped. -/
import Derived.Test.YtmbgcpmapaedcaaDoorN4Leaf
namespace Go.Proofs.YtmbgcpmapaedcaaDoor.Four
open Go.RowKit
theorem and_one (n : Int) : bits .and .i64 n 1 = n % 2 := by
  show IntKind.i64.wrap ((BitVec.ofInt 64 n &&& BitVec.ofInt 64 1).toNat : Int) = _
  rw [BitVec.toNat_and, ofInt_mod, show (BitVec.ofInt 64 1).toNat = 1 from rfl, Nat.and_one_is_mod]
  simp [IntKind.wrap, IntKind.bits, IntKind.signed]
  omega
theorem w64 {n : Int} (h1 : -9223372036854775808 ≤ n) (h2 : n < 9223372036854775808) : wrap64 n = n := by
  unfold wrap64; omega
theorem tmod_up (n m : Int) (hm : m = 65536 ∨ m = 4294967296) : (wrap64 (n.tmod m + m)).tmod m = n % m := by
  have h : n.tmod m = n % m ∨ n.tmod m = n % m - m := by
    rcases Int.le_total 0 n with h0 | h0
    · left; exact Int.tmod_eq_emod_of_nonneg h0
    · have e : (-n).tmod m = -(n.tmod m) := Int.neg_tmod n m
      rw [Int.tmod_eq_emod_of_nonneg (show 0 ≤ -n by omega)] at e
      rcases hm with rfl | rfl <;> omega
  have h2 : 0 ≤ n.tmod m + m ∧ n.tmod m + m < 9223372036854775808 ∧ (n.tmod m + m) % m = n % m := by
    rcases hm with rfl | rfl <;> omega
  rw [w64 (by omega) (by omega), Int.tmod_eq_emod_of_nonneg h2.1, h2.2.2]
theorem wr_i16 (n : Int) : wrap64 (IntKind.i16.wrap n) = wrN 2 n := by
  have e : IntKind.i16.wrap n = wrN 2 n := by
    unfold wrN
    rw [if_neg (by decide), show szN 2 = 65536 from rfl]
    simp [IntKind.wrap, IntKind.bits, IntKind.signed]
  obtain ⟨a, b⟩ := wr_range (t := 2) (by decide) n
  rw [show szN 2 = 65536 from rfl] at a b
  rw [e, w64 (by omega) (by omega)]
theorem wr_i32 {t : Int} (h1 : t ≠ 1) (h2 : t ≠ 2) (n : Int) : wrap64 (wrap32 n) = wrN t n := by
  have es : szN t = 4294967296 := by unfold szN; rw [if_neg h2]
  have e : wrap32 n = wrN t n := by
    unfold wrN wrap32
    rw [if_neg h1, es]
    split <;> omega
  obtain ⟨a, b⟩ := wr_range (t := t) h1 n
  rw [es] at a b
  rw [e, w64 (by omega) (by omega)]
set_option maxRecDepth 100000 in
theorem wrapped_any (t n : Int) (w : World) : Calls Tryd.prog 61 #[.int .i64 t, .int .i64 n] w fun e w' => e = .returned (.int .i64 (wrN t n)) ∧ w' = w := by
  by_cases h1 : t = 1
  · subst h1
    have E := hide ((wr_one n).trans (and_one n).symm)
    go_enter Tryd.func61, Tryd.ntmps61
    go_wp2
    go_ret
    exact ⟨by rw [E.out]; rfl, rfl⟩
  · by_cases h2 : t = 2
    · subst h2
      have E := hide (wr_i16 n).symm
      clear h1
      go_enter Tryd.func61, Tryd.ntmps61
      go_wp2
      go_ret
      exact ⟨by rw [E.out]; rfl, rfl⟩
    · have E := hide (wr_i32 h1 h2 n).symm
      go_enter Tryd.func61, Tryd.ntmps61
      go_wp2
      go_ret
      exact ⟨by rw [E.out]; rfl, rfl⟩
end Go.Proofs.YtmbgcpmapaedcaaDoor.Four
