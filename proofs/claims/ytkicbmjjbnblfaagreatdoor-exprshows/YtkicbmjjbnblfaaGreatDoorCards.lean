/-
  DERIVED. GIVEN WITH THE SEED: THE CARDS: each row of YtkicbmjjbnblfaaGreatDoorRows.lean that lists a variable, with what it lists TIED to the program's text (the seventh form; the later family's looks); each row that meets fmt, with fmt's text TOLD by the authors' own Lean function (tested against real Go, not proved from fmt's source: count such statements apart). THE CARD IS WHAT COUNTS. Prove the row's statement (the work); the ties are given (YtkicbmjjbnblfaaGreatDoorTie.lean); close each card by the builder's one call (the guide's Derived/Test/ToyasCard.lean, 'card_holds'). Laid BY PROGRAM, IN A SANDBOX (cutbox-door.mjs). By AI agents, Wed Nov 11 2026. No macro, syntax, notation, axiom, sorry.
-/
import Derived.Test.YtkicbmjjbnblfaaGreatDoorRows
import GoSem.ClaimSeven
namespace Go.Proofs.YtkicbmjjbnblfaaGreatDoor
namespace Rows

/-- THE TIED CARD OF 'capstanlaw06.ExprShows'. -/
def exprShowsCard : Claim7 := { stood := { row := exprShowsRow, standIns := [], harness := (true, "95ad1834e860220aad9b7e0e85484fae5823785bfdf4c03dc989231e55c6d58f"), looks := false }, kinds := [], alts := [], laidByText := true, laidKinds := [.data, .data, .data, .data, .data, .data, .data, .data], laidTests := true, laidLooks := .later }
def ExprShowsCardSaid : Prop := Claim7.holds Tryz.pinned (.plain (OpenSpec.ofChange exprShowsSpec)) exprShowsCard

/-- THE SECOND FORM's CARD OF 'capstanlaw06.ExprShows'. -/
def exprShowsUptoCard : Claim7 := { stood := { row := exprShowsUptoRow, standIns := [], harness := (true, "95ad1834e860220aad9b7e0e85484fae5823785bfdf4c03dc989231e55c6d58f"), looks := false }, kinds := [], alts := [], laidByText := true, laidKinds := [.data, .data, .data, .data, .data, .data, .data, .data], laidTests := true, laidLooks := .later }
def ExprShowsUptoCardSaid : Prop := Claim7.holds Tryz.pinned (.plain (OpenSpec.upto exprShowsSpec)) exprShowsUptoCard
end Rows
end Go.Proofs.YtkicbmjjbnblfaaGreatDoor
