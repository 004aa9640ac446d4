/- The contract of the law's works: the chapter's two examples hold. -/
import Derived.Test.YtaefnkaenhmekaaDoorEx
import Derived.Test.YtaefnkaenhmekaaDoorHexW
namespace Go.Proofs.YtaefnkaenhmekaaDoor
open Go.RowKit
theorem sum_lit (l : List UInt8) (hn : l.length < 1152921504606846976) (w : World) (hTab : Tab w) (h0 : 0 < w.heap.size) :
    Calls Tryd.prog 18 #[.string ⟨l.toArray⟩] w fun e w' => e = .returned (.string ⟨(shaB l).toArray⟩) ∧ Below w.heap.size w w' := by
  have := sum_any ⟨l.toArray⟩ (by show l.toArray.size < _; simpa using hn) w hTab h0
  simpa using this
theorem hex_lit (l : List UInt8) (hn : l.length ≤ 1048576) (w : World) :
    Calls Tryd.prog 23 #[.string ⟨l.toArray⟩] w fun e w' => e = .returned (.string ⟨(hexL l).toArray⟩) ∧ Below w.heap.size w w' := by
  have := hex_any ⟨l.toArray⟩ (by show l.toArray.size ≤ _; simpa using hn) w
  simpa using this
end Go.Proofs.YtaefnkaenhmekaaDoor
