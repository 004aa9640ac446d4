/-
  DERIVED. GIVEN WITH THE SEED: THE CARDS: each row of YtffeigdgleohlabDoorRows.lean that lists a variable, with what it lists TIED to the program's text (the seventh form; the later family's looks); each row that meets fmt, with fmt's text TOLD by the authors' own Lean function (tested against real Go, not proved from fmt's source: count such statements apart). THE CARD IS WHAT COUNTS. Prove the row's statement (the work); the ties are given (YtffeigdgleohlabDoorTie.lean); close each card by the builder's one call (the guide's Derived/Test/ToyasCard.lean, 'card_holds'). Laid BY PROGRAM, IN A SANDBOX (cutbox-door.mjs). By AI agents, Wed Nov 11 2026. No macro, syntax, notation, axiom, sorry.
-/
import Derived.Test.YtffeigdgleohlabDoorRows
import GoSem.ClaimSeven
namespace Go.Proofs.YtffeigdgleohlabDoor
namespace Rows

/-- THE TIED CARD OF 'capstanlaw04.NumSigns'. -/
def numSignsCard : Claim7 := { stood := { row := numSignsRow, standIns := [], harness := (true, "65c99bb5259e3008f6af54ab52b40e4b380a3339b7b4036ce030c22efd72e73e"), looks := false }, kinds := [], alts := [], laidByText := true, laidKinds := [.data], laidTests := true, laidLooks := .later }
def NumSignsCardSaid : Prop := Claim7.holds Tryd.pinned (.plain (OpenSpec.ofChange numSignsSpec)) numSignsCard

/-- THE TIED CARD OF 'capstanlaw04.NumWidens'. -/
def numWidensCard : Claim7 := { stood := { row := numWidensRow, standIns := [], harness := (true, "65c99bb5259e3008f6af54ab52b40e4b380a3339b7b4036ce030c22efd72e73e"), looks := false }, kinds := [], alts := [], laidByText := true, laidKinds := [.data], laidTests := true, laidLooks := .later }
def NumWidensCardSaid : Prop := Claim7.holds Tryd.pinned (.plain (OpenSpec.ofChange numWidensSpec)) numWidensCard

/-- THE SECOND FORM's CARD OF 'capstanlaw04.NumSigns'. -/
def numSignsUptoCard : Claim7 := { stood := { row := numSignsUptoRow, standIns := [], harness := (true, "65c99bb5259e3008f6af54ab52b40e4b380a3339b7b4036ce030c22efd72e73e"), looks := false }, kinds := [], alts := [], laidByText := true, laidKinds := [.data], laidTests := true, laidLooks := .later }
def NumSignsUptoCardSaid : Prop := Claim7.holds Tryd.pinned (.plain (OpenSpec.upto numSignsSpec)) numSignsUptoCard

/-- THE SECOND FORM's CARD OF 'capstanlaw04.NumWidens'. -/
def numWidensUptoCard : Claim7 := { stood := { row := numWidensUptoRow, standIns := [], harness := (true, "65c99bb5259e3008f6af54ab52b40e4b380a3339b7b4036ce030c22efd72e73e"), looks := false }, kinds := [], alts := [], laidByText := true, laidKinds := [.data], laidTests := true, laidLooks := .later }
def NumWidensUptoCardSaid : Prop := Claim7.holds Tryd.pinned (.plain (OpenSpec.upto numWidensSpec)) numWidensUptoCard
end Rows
end Go.Proofs.YtffeigdgleohlabDoor
