/- The contracts of the document's Parts and Of. -/
import Derived.Test.YtaffoannpnifmaaUnW
import Derived.BigQuiet
namespace Go.Proofs.Ytaffoannpnifmaa
open Go.RowKit
attribute [local go_sem] run_store_complex run_store_float unary_neg_float
theorem order_comm (a b : Nat) : (FloatKind.f64.format.order a b == some .eq) = (FloatKind.f64.format.order b a == some .eq) := by
  unfold Ieee.Format.order
  generalize FloatKind.f64.format.read a = x
  generalize FloatKind.f64.format.read b = y
  cases x <;> cases y <;> simp only [Ieee.Datum.order]
  · rename_i s m i t n j
    rw [cmp_eq, cmp_eq, Int.min_comm]
    exact decide_eq_decide.2 eq_comm
  · rename_i s m i t; cases t <;> rfl
  · rename_i t s m i; cases t <;> rfl
  · rename_i s t; cases s <;> cases t <;> rfl
set_option maxRecDepth 100000 in
set_option maxHeartbeats 800000 in
theorem parts_any (n : Nat) (hn : n < 4) (w : World) : Calls Try.prog 14 #[.int .i64 (n : Int)] w fun e w' => e = .returned (.tuple #[.float .f64 (uRe n), .float .f64 (uIm n)]) ∧ Below w.heap.size w w' := by
  have HB := hide (two_below w)
  obtain rfl | rfl | rfl | rfl : n = 0 ∨ n = 1 ∨ n = 2 ∨ n = 3 := by omega
  all_goals
    clear hn
    go_enter Try.func14, Try.ntmps14
    go_wp2_with fail
    go_region
    all_goals
      go_wp2
      go_ret2
      exact ⟨rfl, (HB.out _ _).drew⟩
/-- the number of the place of a complex number's words; -1: it has none -/
def ofV (p : Option Nat) : Int := match p with | some n => (n : Int) | none => -1
set_option maxRecDepth 100000 in
set_option maxHeartbeats 1600000 in
theorem of_any (a b : Nat) (ha : a < 18446744073709551616) (hb : b < 18446744073709551616) (w : World) : Calls Try.prog 19 #[.float .f64 a, .float .f64 b] w fun e w' => e = .returned (.int .i64 (ofV (plc a b))) ∧ Below w.heap.size w w' := by
  have q0 := eq_0 ha hb
  have q1 := eq_1 ha hb
  have q2 := eq_2 ha hb
  have q3 := eq_3 ha hb
  have HLT : Hid (∀ n, plc a b = some n → n < 4) := fun n h => plc_lt h
  have hq : ∀ k : Nat, k < 4 → ((FloatKind.f64.format.order (uRe k) a == some .eq) && (FloatKind.f64.format.order (uIm k) b == some .eq)) = decide (plc a b = some k) := fun k hk => by
    rw [order_comm (uRe k) a, order_comm (uIm k) b]
    obtain rfl | rfl | rfl | rfl : k = 0 ∨ k = 1 ∨ k = 2 ∨ k = 3 := by omega
    · exact q0
    · exact q1
    · exact q2
    · exact q3
  have HQ := hide hq
  clear q0 q1 q2 q3 hq ha hb
  have HV : Hid (∀ n, plc a b = some n → ofV (plc a b) = (n : Int)) := fun n h => by rw [h]; rfl
  have HN : Hid ((∀ n, n < 4 → plc a b ≠ some n) → ofV (plc a b) = -1) := fun h => by
    cases hp : plc a b with
    | none => rfl
    | some n => exact absurd hp (h n (HLT.out n hp))
  generalize ofV (plc a b) = V at *
  generalize plc a b = pp at *
  go_enter Try.func19, Try.ntmps19
  go_wp2_with fail
  go_loopw [5, 6, 7] (fun i _ _ wr => ∃ k : Nat, k ≤ 4 ∧ i = .int .i64 (k : Int) ∧ Hid ((∀ j, j < k → pp ≠ some j) ∧ Below w.heap.size w wr)) (fun i _ _ _ => 4 - (intOf i).toNat)
  case atStart => exact ⟨0, by omega, rfl, fun j hj => absurd hj (Nat.not_lt_zero _), Below.refl _ _⟩
  case round =>
    obtain ⟨k, hk, rfl, hh⟩ := hrel
    have HJ := hide hh.out.1
    have HB := hide hh.out.2
    clear hh
    by_cases hlt : k < 4
    · have m1 := fun W => parts_any k hlt W
      have i1 : (k : Int) ≤ 3 := by omega
      have i0 : (0 : Int) ≤ (k : Int) := by omega
      have hq := HQ.out k hlt
      generalize uRe k = x at *
      generalize uIm k = y at *
      cases h1 : (FloatKind.f64.format.order x a == some .eq) <;> cases h2 : (FloatKind.f64.format.order y b == some .eq)
      case true.true =>
        rw [h1, h2] at hq
        have HE := hide (HV.out k (of_decide_eq_true hq.symm))
        clear hq
        go_wp2_with (first | (go_at_call 14; refine (m1 _).mono ?_; rintro e w1 ⟨rfl, hb1⟩))
        go_ret
        exact ⟨by rw [HE.out]; rfl, HB.out.trans (hb1.mono HB.out.size)⟩
      all_goals
        rw [h1, h2] at hq
        have HE : Hid (∀ j, j < k + 1 → pp ≠ some j) := fun j hj => by
          rcases (show j < k ∨ j = k by omega) with h | rfl
          · exact HJ.out j h
          · exact of_decide_eq_false hq.symm
        clear hq
        go_wp2_with (first | (go_at_call 14; refine (m1 _).mono ?_; rintro e w1 ⟨rfl, hb1⟩))
        go_roundw
        case rel => exact ⟨k + 1, by omega, by go_num, HE.out, HB.out.trans (hb1.mono HB.out.size)⟩
        case measure => simp [intOf]; omega
    · obtain rfl : k = 4 := by omega
      have HE := hide (HN.out HJ.out)
      clear hlt hk
      go_wp2
      go_ret
      exact ⟨by rw [HE.out]; rfl, HB.out⟩
end Go.Proofs.Ytaffoannpnifmaa
