/- What the rows' list gives: the table of constants lies in memory; and a world that shows that the list can be met. -/
import Derived.Test.YtaefnkaenhmekaaDoorCards
import Derived.Test.YtaefnkaenhmekaaDoorTie
import Derived.Test.YtaefnkaenhmekaaDoorTake
import Derived.WalkKit
import Derived.ProofKit
import Derived.OpenShut
import Derived.Deep.DeepHandedRow
import Derived.Lib.LaidTab
namespace Go.Proofs.YtaefnkaenhmekaaDoor
open Go.ChangeShapes Go.WideShapes Go.ChangeAt Go.RowKit
theorem own : ownKnob Tryd.prog.godebug = none := by kernel_rfl
theorem gTab : Tryd.prog.globalNamed "capstan/sha.roundConstants" = some 0 := by kernel_rfl
theorem gTabType : (Tryd.prog.globals[0]?).map (·.type) = some 58 := by kernel_rfl
theorem cells54 : Tryd.prog.cellsOf 58 = 64 := by kernel_rfl
theorem cells37 : Tryd.prog.cellsOf 42 = 1 := by kernel_rfl
def kInts : List Int := kTab.map fun (n : Nat) => (n : Int)
theorem table {W : World} (h : laidMetH Tryd.prog [("capstan/sha.roundConstants", Rows.laid_capstan_sha_roundConstants)] W) : Lib.TabIs Tryd.prog W "capstan/sha.roundConstants" .u32 kInts :=
  Lib.tabIs_of_head (rest := []) gTab gTabType Tryd.underlying58 Tryd.underlying42 cells37 cells54 h
theorem tab_of_laid {W : World} (h : laidMetH Tryd.prog [("capstan/sha.roundConstants", Rows.laid_capstan_sha_roundConstants)] W) : Tab W := fun t ht => by
  have h1 := (table h).cell gTab t (show t < 64 from ht)
  rw [h1]
  have e : ∀ t : Fin 64, kInts.getD t.val 0 = V (kAt t.val) := by decide +kernel
  exact congrArg (fun x => some (Value.int .u32 x)) (e ⟨t, ht⟩)
theorem some_of_tab {W : World} (h : Tab W) : 0 < W.heap.size := World.block_lt_of_cell? W _ (h 0 (by omega))
/-- the table laid into a world's first block -/
def layTab (w : World) : World :=
  { w with heap := w.heap.modify 0 fun
      | .cells _ t frozen => .cells (kTab.map fun (n : Nat) => Value.int .u32 (n : Int)).toArray t frozen
      | o => o }
end Go.Proofs.YtaefnkaenhmekaaDoor
