/- CodeShows' walk, as the row asks for it. -/
import Derived.Test.YtmbgcpmapaedcaaDoorShD
import Derived.Test.YtmbgcpmapaedcaaDoorFrame
namespace Go.Proofs.YtmbgcpmapaedcaaDoor
open Go.RowKit
theorem wf_ends {n : Int} (h : (Lit.int .i64 n).wf = true) : -9223372036854775808 ≤ n ∧ n ≤ 9223372036854775807 := by
  have h' : IntKind.i64.min ≤ n ∧ n ≤ 9223372036854775807 := by simpa [Lit.wf] using h
  have e : IntKind.i64.min = -9223372036854775808 := by decide
  omega
theorem shows_row (o a b n : Int) (w : World) (ha : (Lit.int .i64 a).wf = true) (hb : (Lit.int .i64 b).wf = true) (hn : (Lit.int .i64 n).wf = true) (hg : GlP w) : Calls Tryd.prog 3 #[.agg #[.int .i64 o, .int .i64 a, .int .i64 b, .int .i64 n]] w fun e w' => e = .returned (.bool true) ∧ Below w.heap.size w w' :=
  shows_any ⟨o, a, b, n⟩ ⟨(wf_ends ha).1, (wf_ends ha).2, (wf_ends hb).1, (wf_ends hb).2, (wf_ends hn).1, (wf_ends hn).2⟩ w hg.1 hg.2
end Go.Proofs.YtmbgcpmapaedcaaDoor
