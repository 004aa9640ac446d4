/- The document's flag and gone; what a timer's cells are behind a call. -/
import Derived.Test.YthifgfhgkdjkfaaDoorApW
import Derived.Test.YthifgfhgkdjkfaaDoorDocW
namespace Go.Proofs.YthifgfhgkdjkfaaDoor
open Go.RowKit
set_option maxHeartbeats 400000 in
theorem flag12 (b : Bool) (w : World) : Calls Tryd.prog 27 #[.bool b] w fun e w' => e = .returned (.int .i64 (flagN b)) ∧ w' = w := by
  cases b
  all_goals
    go_enter Tryd.func27, Tryd.ntmps27
    go_wp2
    go_ret
    exact ⟨rfl, rfl⟩
set_option maxRecDepth 100000 in
set_option maxHeartbeats 9600000 in
theorem gone12 (now s : Int) (h1 : fitB 4 now = true) (h2 : fitB 4 s = true) (w : World) : Calls Tryd.prog 40 #[.int .i64 now, .int .i64 s] w fun e w' => e = .returned (.int .i64 (goneN now s)) ∧ w' = w := by
  have m1 := twoR_any 2 4 now s w
  rw [gone_two h1 h2] at m1
  clear h1 h2
  generalize goneN now s = G at *
  go_enter Tryd.func40, Tryd.ntmps40
  go_wp2_with (first | (go_at_call 51; refine m1.mono ?_; rintro e w1 ⟨rfl, rfl⟩))
  go_ret
  exact ⟨rfl, rfl⟩
end Go.Proofs.YthifgfhgkdjkfaaDoor
