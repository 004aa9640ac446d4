/-
  DERIVED. GIVEN WITH THE SEED: THE CARDS: each row of YtlckedionmgjjaaDoorRows.lean that lists a variable, with what it lists TIED to the program's text (the seventh form; the later family's looks); each row that meets fmt, with fmt's text TOLD by the authors' own Lean function (tested against real Go, not proved from fmt's source: count such statements apart). THE CARD IS WHAT COUNTS. Prove the row's statement (the work); the ties are given (YtlckedionmgjjaaDoorTie.lean); close each card by the builder's one call (the guide's Derived/Test/ToyasCard.lean, 'card_holds'). Laid BY PROGRAM, IN A SANDBOX (cutbox-door.mjs). By AI agents, Wed Nov 11 2026. No macro, syntax, notation, axiom, sorry.
-/
import Derived.Test.YtlckedionmgjjaaDoorRows
import GoSem.ClaimSeven
namespace Go.Proofs.YtlckedionmgjjaaDoor
namespace Rows

/-- THE TIED CARD OF 'capstanlaw15.VerifyChecks'. -/
def verifyChecksCard : Claim7 := { stood := { row := verifyChecksRow, standIns := [], harness := (true, "cf2b9c011a2e30c4d416d1367a552a8de806a9c43de7db0794102a91efd6100a"), looks := false }, kinds := [], alts := [], laidByText := true, laidKinds := [.data, .data, .data], laidTests := true, laidLooks := .later }
def VerifyChecksCardSaid : Prop := Claim7.holds Tryd.pinned (.plain (OpenSpec.ofChange verifyChecksSpec)) verifyChecksCard

/-- THE TIED CARD OF 'capstanlaw15.VerifyDead'. -/
def verifyDeadCard : Claim7 := { stood := { row := verifyDeadRow, standIns := [], harness := (true, "cf2b9c011a2e30c4d416d1367a552a8de806a9c43de7db0794102a91efd6100a"), looks := false }, kinds := [], alts := [], laidByText := true, laidKinds := [.data, .data, .data], laidTests := true, laidLooks := .later }
def VerifyDeadCardSaid : Prop := Claim7.holds Tryd.pinned (.plain (OpenSpec.ofChange verifyDeadSpec)) verifyDeadCard

/-- THE TIED CARD OF 'capstanlaw15.VerifyPushes'. -/
def verifyPushesCard : Claim7 := { stood := { row := verifyPushesRow, standIns := [], harness := (true, "cf2b9c011a2e30c4d416d1367a552a8de806a9c43de7db0794102a91efd6100a"), looks := false }, kinds := [], alts := [], laidByText := true, laidKinds := [.data, .data, .data], laidTests := true, laidLooks := .later }
def VerifyPushesCardSaid : Prop := Claim7.holds Tryd.pinned (.plain (OpenSpec.ofChange verifyPushesSpec)) verifyPushesCard

/-- THE SECOND FORM's CARD OF 'capstanlaw15.VerifyChecks'. -/
def verifyChecksUptoCard : Claim7 := { stood := { row := verifyChecksUptoRow, standIns := [], harness := (true, "cf2b9c011a2e30c4d416d1367a552a8de806a9c43de7db0794102a91efd6100a"), looks := false }, kinds := [], alts := [], laidByText := true, laidKinds := [.data, .data, .data], laidTests := true, laidLooks := .later }
def VerifyChecksUptoCardSaid : Prop := Claim7.holds Tryd.pinned (.plain (OpenSpec.upto verifyChecksSpec)) verifyChecksUptoCard

/-- THE SECOND FORM's CARD OF 'capstanlaw15.VerifyDead'. -/
def verifyDeadUptoCard : Claim7 := { stood := { row := verifyDeadUptoRow, standIns := [], harness := (true, "cf2b9c011a2e30c4d416d1367a552a8de806a9c43de7db0794102a91efd6100a"), looks := false }, kinds := [], alts := [], laidByText := true, laidKinds := [.data, .data, .data], laidTests := true, laidLooks := .later }
def VerifyDeadUptoCardSaid : Prop := Claim7.holds Tryd.pinned (.plain (OpenSpec.upto verifyDeadSpec)) verifyDeadUptoCard

/-- THE SECOND FORM's CARD OF 'capstanlaw15.VerifyPushes'. -/
def verifyPushesUptoCard : Claim7 := { stood := { row := verifyPushesUptoRow, standIns := [], harness := (true, "cf2b9c011a2e30c4d416d1367a552a8de806a9c43de7db0794102a91efd6100a"), looks := false }, kinds := [], alts := [], laidByText := true, laidKinds := [.data, .data, .data], laidTests := true, laidLooks := .later }
def VerifyPushesUptoCardSaid : Prop := Claim7.holds Tryd.pinned (.plain (OpenSpec.upto verifyPushesSpec)) verifyPushesUptoCard
end Rows
end Go.Proofs.YtlckedionmgjjaaDoor
