/-
  DERIVED. GIVEN WITH THE SEED: THE CARDS: each row of YthifgfhgkdjkfabDoorRows.lean that lists a variable, with what it lists TIED to the program's text (the seventh form; the later family's looks); each row that meets fmt, with fmt's text TOLD by the authors' own Lean function (tested against real Go, not proved from fmt's source: count such statements apart). THE CARD IS WHAT COUNTS. Prove the row's statement (the work); the ties are given (YthifgfhgkdjkfabDoorTie.lean); close each card by the builder's one call (the guide's Derived/Test/ToyasCard.lean, 'card_holds'). Laid BY PROGRAM, IN A SANDBOX (cutbox-door.mjs). By AI agents, Wed Nov 11 2026. No macro, syntax, notation, axiom, sorry.
-/
import Derived.Test.YthifgfhgkdjkfabDoorRows
import GoSem.ClaimSeven
namespace Go.Proofs.YthifgfhgkdjkfabDoor
namespace Rows

/-- THE TIED CARD OF 'capstanlaw12.BlockTwice'. -/
def blockTwiceCard : Claim7 := { stood := { row := blockTwiceRow, standIns := [], harness := (true, "7ae365ae003e10c535ec644982c5cc408c6b9ca401eb0b728444ea3ea3a1c12f"), looks := false }, kinds := [], alts := [], laidByText := true, laidKinds := [.data], laidTests := true, laidLooks := .later }
def BlockTwiceCardSaid : Prop := Claim7.holds Tryd.pinned (.plain (OpenSpec.ofChange blockTwiceSpec)) blockTwiceCard

/-- THE SECOND FORM's CARD OF 'capstanlaw12.BlockTwice'. -/
def blockTwiceUptoCard : Claim7 := { stood := { row := blockTwiceUptoRow, standIns := [], harness := (true, "7ae365ae003e10c535ec644982c5cc408c6b9ca401eb0b728444ea3ea3a1c12f"), looks := false }, kinds := [], alts := [], laidByText := true, laidKinds := [.data], laidTests := true, laidLooks := .later }
def BlockTwiceUptoCardSaid : Prop := Claim7.holds Tryd.pinned (.plain (OpenSpec.upto blockTwiceSpec)) blockTwiceUptoCard
end Rows
end Go.Proofs.YthifgfhgkdjkfabDoor
