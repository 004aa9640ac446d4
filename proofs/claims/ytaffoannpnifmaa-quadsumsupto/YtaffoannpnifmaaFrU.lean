/- A slice holds no more values than its bulk. -/
import Derived.Test.YtaffoannpnifmaaFrm
namespace Go.Proofs.Ytaffoannpnifmaa
theorem bulk_ints {H : Type} (l : List Int) : Rows.uptoBulkAll (H := H) (l.map fun y => .lit (.int .i64 y)) = l.length := by
  induction l with
  | nil => simp [Rows.uptoBulkAll]
  | cons x l ih => rw [List.map_cons, Rows.uptoBulkAll, ih, List.length_cons]; simp [Rows.uptoBulk]; omega
theorem bulk_list {H : Type} {d : DataW H} {el sp : List (DataW H)} {l : List Int} (e1 : d = .slice el sp) (e2 : el = l.map fun y => .lit (.int .i64 y)) : l.length ≤ Rows.uptoBulk d := by
  rw [e1, Rows.uptoBulk, e2, bulk_ints]; omega
end Go.Proofs.Ytaffoannpnifmaa
