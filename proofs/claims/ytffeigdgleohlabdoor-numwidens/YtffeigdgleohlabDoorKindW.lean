/- The contracts of the laws' kind, wrapped, and of the closures of NumRings and NumCompares. -/
import Derived.Test.YtffeigdgleohlabDoorNumP
import Derived.Test.YtffeigdgleohlabDoorResW
namespace Go.Proofs.YtffeigdgleohlabDoor
open Go.RowKit
/-- a whole type, by a number -/
def kindN (n : Int) : Int := 2 + n % 18446744073709551616 % 2
theorem kind_whole (n : Int) : kindN n = 2 ∨ kindN n = 3 := by unfold kindN; omega
theorem kind_eq (n : Int) : wrap64 (2 + wrap64 ((IntKind.u64.wrap n).tmod 2)) = kindN n := by
  have e : IntKind.u64.wrap n = n % 18446744073709551616 := by simp [IntKind.wrap, IntKind.bits, IntKind.signed]
  have h := Int.emod_nonneg n (show (18446744073709551616 : Int) ≠ 0 by decide)
  unfold kindN
  rw [e, Int.tmod_eq_emod_of_nonneg h, w64 (n := n % 18446744073709551616 % 2) (by omega) (by omega), w64 (by omega) (by omega)]
set_option maxRecDepth 100000 in
theorem kind_any (n : Int) (w : World) : Calls Tryd.prog 6 #[.int .i64 n] w fun e w' => e = .returned (.int .i64 (kindN n)) ∧ w' = w := by
  go_enter Tryd.func6, Tryd.ntmps6
  go_wp2
  go_ret
  exact ⟨ret_int (kind_eq n), rfl⟩
set_option maxRecDepth 100000 in
theorem wrapL_any (t n : Int) (w : World) : Calls Tryd.prog 7 #[.int .i64 t, .int .i64 n] w fun e w' => e = .returned (.int .i64 (wrapN t n).1) ∧ w' = w := by
  have c := wrap_any t n
  generalize wrapN t n = v at *
  obtain ⟨x, y⟩ := v
  go_enter Tryd.func7, Tryd.ntmps7
  go_wp2_with fail
  refine (c _).mono ?_
  rintro e w1 ⟨rfl, rfl⟩
  go_wp2
  go_ret
  exact ⟨rfl, rfl⟩
theorem quiet_wrapL (t n : Int) (w : World) (m : Nat) : Calls Tryd.prog 7 #[.int .i64 t, .int .i64 n] (w.drewN m) fun e w'' => e = .returned (.int .i64 (wrapN t n).1) ∧ ∃ q, w'' = w.drewN q :=
  (wrapL_any t n (w.drewN m)).mono fun _ _ ⟨h1, h2⟩ => ⟨h1, m, h2⟩
theorem wrapN_ty {t : Int} (h : tyB t = true) (n : Int) : wrapN t n = (wrN t n, 0) := by unfold wrapN; rw [if_neg (by rw [h]; decide)]
end Go.Proofs.YtffeigdgleohlabDoor
