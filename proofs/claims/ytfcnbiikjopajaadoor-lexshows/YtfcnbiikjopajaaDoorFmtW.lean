/- FormatInt at 10, in this proof's own words. -/
import Derived.Test.YtfcnbiikjopajaaDoorShelfB
import Derived.Test.YtfcnbiikjopajaaDoorFbW
namespace Go.Proofs.YtfcnbiikjopajaaDoor
open Go.RowKit
theorem dec_lib : ∀ (f n : Nat), n < 10 ^ f → 0 < f → repF chL 10 f n = Lib.decDigits n
  | 0, n, _, h => absurd h (Nat.lt_irrefl 0)
  | f + 1, n, hn, _ => by
    rw [repF, Lib.decDigits]
    by_cases h : n < 10
    · rw [if_pos (by omega), dif_pos h, Nat.mod_eq_of_lt h]
      unfold chL
      rw [if_pos h]
    · have hf : 0 < f := by
        rcases Nat.eq_zero_or_pos f with h0 | h0
        · rw [h0] at hn; omega
        · exact h0
      rw [if_neg (by omega), dif_neg h, dec_lib f (n / 10) (by rw [Nat.pow_succ] at hn; omega) hf]
      unfold chL
      rw [if_pos (by omega)]
theorem itoa_dec (n : Int) (h0 : -9223372036854775808 ≤ n) (h1 : n ≤ 9223372036854775807) : Lib.itoa n = signedL n := by
  unfold Lib.itoa signedL dec
  by_cases h : n < 0
  · rw [if_pos h, if_pos h, dec_lib 20 n.natAbs (by omega) (by decide)]
  · rw [if_neg h, if_neg h, dec_lib 20 n.natAbs (by omega) (by decide)]
    congr 1
    omega
theorem grow_below (w : World) (k : Nat) (os : Array Obj) : Below w.heap.size w (Sort.grow (w.drewN k) os) := by
  refine ⟨rfl, rfl, rfl, ?_, fun b hb => ?_⟩
  · show w.heap.size ≤ (w.heap ++ os).size
    rw [Array.size_append]; omega
  · show (w.heap ++ os)[b]? = w.heap[b]?
    rw [Array.getElem?_append_left hb]
theorem formatInt10 (n : Int) (h0 : -9223372036854775808 ≤ n) (h1 : n ≤ 9223372036854775807) (w : World) (htab : Lib.TabIs Tryd.prog w "internal/strconv.uint64pow10" .u64 Lib.pow10Tab) :
    Calls Tryd.prog 51 #[.int .i64 n, .int .i64 10] w fun e w' => e = .returned (.string ⟨(signedL n).toArray⟩) ∧ Below w.heap.size w w' :=
  (Tryd.strconv_FormatInt_10 n h0 h1 w htab).mono fun e w' ⟨he, k, os, hw⟩ => ⟨by rw [← itoa_dec n h0 h1]; exact he, by rw [hw]; exact grow_below w k os⟩
end Go.Proofs.YtfcnbiikjopajaaDoor
