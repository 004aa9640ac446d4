/- The contracts of the row's result, and of the program's Wrap, Convert. -/
import Derived.Test.YtffeigdgleohlabDoorRefW
namespace Go.Proofs.YtffeigdgleohlabDoor
open Go.RowKit
set_option maxRecDepth 100000 in
theorem wrap_any (t n : Int) (w : World) : Calls Tryd.prog 12 #[.int .i64 t, .int .i64 n] w fun e w' => e = .returned (.tuple #[.int .i64 (wrapN t n).1, .int .i64 (wrapN t n).2]) ∧ w' = w := by
  have c := isType_any t
  have d := wrapped_any t n
  cases hT : tyB t with
  | false =>
    have E := hide (show wrapN t n = (0, 40) by unfold wrapN; rw [if_pos hT])
    rw [hT] at c
    clear hT d
    go_enter Tryd.func12, Tryd.ntmps12
    go_wp2_with fail
    refine (c _).mono ?_
    rintro e w1 ⟨rfl, rfl⟩
    go_wp2
    go_ret2
    exact ⟨by rw [E.out]; rfl, rfl⟩
  | true =>
    have E := hide (show wrapN t n = (wrN t n, 0) by unfold wrapN; rw [if_neg (by rw [hT]; decide)])
    rw [hT] at c
    clear hT
    go_enter Tryd.func12, Tryd.ntmps12
    go_wp2_with fail
    refine (c _).mono ?_
    rintro e w1 ⟨rfl, rfl⟩
    go_wp2_with fail
    refine (d _).mono ?_
    rintro e w1 ⟨rfl, rfl⟩
    go_wp2
    go_ret2
    exact ⟨by rw [E.out]; rfl, rfl⟩
end Go.Proofs.YtffeigdgleohlabDoor
