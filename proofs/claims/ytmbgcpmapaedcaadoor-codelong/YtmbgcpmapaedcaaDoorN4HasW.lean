/- The contract of the document's Has: which operations there are. -/
import Derived.Test.YtmbgcpmapaedcaaDoorN4RefW
namespace Go.Proofs.YtmbgcpmapaedcaaDoor.Four
open Go.RowKit
theorem ne_dec' (a b : Int) : (a != b) = decide (a ≠ b) := by
  rw [Bool.eq_iff_iff]; simp
end Go.Proofs.YtmbgcpmapaedcaaDoor.Four
