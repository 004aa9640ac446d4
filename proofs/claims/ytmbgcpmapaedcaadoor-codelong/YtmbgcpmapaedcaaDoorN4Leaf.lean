/- Small contracts: which numbers are types, truth as a number, the document's sizes; kind. -/
import Derived.Test.YtmbgcpmapaedcaaDoorN4
import Derived.Test.YtmbgcpmapaedcaaDoorProg
import Derived.Deep.QuietTactic
import Derived.BigQuiet
namespace Go.Proofs.YtmbgcpmapaedcaaDoor.Four
open Go.RowKit
theorem hide {p : Prop} (h : p) : Hid p := h
theorem ret_bool {a b : Bool} (h : a = b) : Ending.returned (.bool a) = .returned (.bool b) := by rw [h]
theorem ret_int {k : IntKind} {a b : Int} (h : a = b) : Ending.returned (.int k a) = .returned (.int k b) := by rw [h]
set_option maxRecDepth 100000 in
theorem isType_any (t : Int) (w : World) : Calls Tryd.prog 59 #[.int .i64 t] w fun e w' => e = .returned (.bool (tyB t)) ∧ w' = w := by
  have E := hide (show tyB t = (decide (1 ≤ t) && decide (t ≤ 4)) from rfl)
  by_cases h1 : 1 ≤ t
  · by_cases h2 : t ≤ 4
    · rw [E.out, decide_eq_true h1, decide_eq_true h2]
      clear E
      go_enter Tryd.func59, Tryd.ntmps59
      go_wp2
      go_ret
      exact ⟨rfl, rfl⟩
    · rw [E.out, decide_eq_true h1, decide_eq_false h2]
      clear E
      go_enter Tryd.func59, Tryd.ntmps59
      go_wp2
      go_ret
      exact ⟨rfl, rfl⟩
  · rw [E.out, decide_eq_false h1]
    clear E
    go_enter Tryd.func59, Tryd.ntmps59
    go_wp2
    go_ret
    exact ⟨rfl, rfl⟩
set_option maxRecDepth 100000 in
theorem truth_any (b : Bool) (w : World) : Calls Tryd.prog 80 #[.bool b] w fun e w' => e = .returned (.int .i64 (flagN b)) ∧ w' = w := by
  cases b
  all_goals
    go_enter Tryd.func80, Tryd.ntmps80
    go_wp2
    go_ret
    exact ⟨rfl, rfl⟩
end Go.Proofs.YtmbgcpmapaedcaaDoor.Four
