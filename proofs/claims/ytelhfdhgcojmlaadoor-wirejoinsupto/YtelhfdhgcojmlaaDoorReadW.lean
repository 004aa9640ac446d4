/- The contracts of the program's small readers. -/
import Derived.Test.YtelhfdhgcojmlaaDoorOr
namespace Go.Proofs.YtelhfdhgcojmlaaDoor
open Go.RowKit
theorem run_idx (s : ByteArray) (k : Nat) (c : UInt8) (h : s.data.toList[k]? = some c) (W : World) : (Instr.index 9 (.string s) (.int .i64 (k : Int))).run Tryd.prog W = .ok (.int .u8 (c.toNat : Int)) W := by
  have e : s[k]? = some c := by
    have hk : k < s.size := by rw [← text_len]; exact (List.getElem?_eq_some_iff.1 h).1
    rw [Array.getElem?_toList] at h
    have h' := (Array.getElem?_eq_some_iff.1 h).2
    simp [hk]; exact h'
  have hk : k < s.size := by rw [← text_len]; exact (List.getElem?_eq_some_iff.1 h).1
  simp only [Instr.index, asIntOf, Sem.run_bind, Sem.run_pure, Result.andThen_ok, run_underlying Tryd.underlying9]
  rw [if_pos (by omega), Int.toNat_natCast]
  simp [e]
theorem below_drawn {B : Nat} {a w : World} (h : Below B a w) (n : Nat) : Below B a (w.drewN n) := h.trans ⟨rfl, rfl, rfl, Nat.le_refl _, fun _ _ => rfl⟩
set_option maxHeartbeats 800000 in
theorem readPair_any (s : ByteArray) (h l : UInt8) (h0 : s.data.toList[0]? = some h) (h1 : s.data.toList[1]? = some l) (w : World) :
    Calls Tryd.prog 30 #[.string s] w fun e w' => e = .returned (.int .i64 ((h.toNat * 256 + l.toNat : Nat) : Int)) ∧ Below w.heap.size w w' := by
  have x0 : ∀ W, (Instr.index 9 (.string s) (.int .i64 0)).run Tryd.prog W = .ok (.int .u8 (h.toNat : Int)) W := run_idx s 0 h h0
  have x1 : ∀ W, (Instr.index 9 (.string s) (.int .i64 1)).run Tryd.prog W = .ok (.int .u8 (l.toNat : Int)) W := run_idx s 1 l h1
  have b0 : (h.toNat : Int) < 256 := by have := h.toNat_lt; omega
  have b1 : (l.toNat : Int) < 256 := by have := l.toNat_lt; omega
  go_enter Tryd.func30, Tryd.ntmps30
  go_wp2
  go_quiet (fail)
  go_wp2
  go_ret
  exact ⟨ret_int (or_i64 _ _ (by omega) (by omega)), below_drawn (Below.refl _ _) _⟩
theorem numV_snoc (l : List UInt8) (c : UInt8) : ∀ a, numV (l ++ [c]) a = numV l a * 256 + c.toNat := by
  induction l with
  | nil => intro a; rfl
  | cons x l ih => intro a; exact ih _
theorem numV_lt (l : List UInt8) : ∀ a, numV l a < (a + 1) * 256 ^ l.length := by
  induction l with
  | nil => intro a; simp [numV]
  | cons x l ih =>
    intro a
    have h := ih (a * 256 + x.toNat)
    have hx := x.toNat_lt
    rw [numV, List.length_cons, Nat.pow_succ]
    refine Nat.lt_of_lt_of_le h ?_
    rw [Nat.mul_comm (256 ^ l.length) 256, ← Nat.mul_assoc]
    exact Nat.mul_le_mul_right _ (by omega)
theorem sign_wrap (v : Nat) (h : v < 18446744073709551616) : IntKind.i64.wrap (v : Int) = signV v := by
  unfold signV
  simp [IntKind.wrap, IntKind.bits, IntKind.signed]
  split <;> omega
/-- what a reader of one item answers -/
def rdOut : Except Int (It × List UInt8) → Value
  | .error e => .tuple #[.agg #[.bool false, .int .i64 0, .string ⟨#[]⟩], .iface 61 (.int .i64 e)]
  | .ok (x, _) => .tuple #[itA x, .nilIface]
end Go.Proofs.YtelhfdhgcojmlaaDoor
