/-
  DERIVED. GIVEN WITH THE SEED: THE CARDS: each row of YtekanffohkeoeaaGreatDoorRows.lean that lists a variable, with what it lists TIED to the program's text (the seventh form; the later family's looks); each row that meets fmt, with fmt's text TOLD by the authors' own Lean function (tested against real Go, not proved from fmt's source: count such statements apart). THE CARD IS WHAT COUNTS. Prove the row's statement (the work); the ties are given (YtekanffohkeoeaaGreatDoorTie.lean); close each card by the builder's one call (the guide's Derived/Test/ToyasCard.lean, 'card_holds'). Laid BY PROGRAM, IN A SANDBOX (cutbox-door.mjs). By AI agents, Wed Nov 11 2026. No macro, syntax, notation, axiom, sorry.
-/
import Derived.Test.YtekanffohkeoeaaGreatDoorRows
import GoSem.ClaimSeven
namespace Go.Proofs.YtekanffohkeoeaaGreatDoor
namespace Rows

/-- THE TIED CARD OF 'capstanlaw07.StmtReads'. -/
def stmtReadsCard : Claim7 := { stood := { row := stmtReadsRow, standIns := [], harness := (true, "c344629bb8be552f6a06b3730de35900fa3ad529c88abde0b08d2bbe52b6d6f2"), looks := true }, kinds := [], alts := [], laidByText := true, laidKinds := [.data, .data, .data, .data, .data, .data, .data, .data, .sentinel, .sentinel, .sentinel, .sentinel, .data], laidTests := true, laidLooks := .later }
def StmtReadsCardSaid : Prop := Claim7.holds Tryz.pinned (.plain (OpenSpec.ofChange stmtReadsSpec)) stmtReadsCard

/-- THE TIED CARD OF 'capstanlaw07.StmtShows'. -/
def stmtShowsCard : Claim7 := { stood := { row := stmtShowsRow, standIns := [], harness := (true, "c344629bb8be552f6a06b3730de35900fa3ad529c88abde0b08d2bbe52b6d6f2"), looks := true }, kinds := [], alts := [], laidByText := true, laidKinds := [.data, .data, .data, .data, .data, .data, .data, .data, .sentinel, .sentinel, .sentinel, .sentinel, .data], laidTests := true, laidLooks := .later }
def StmtShowsCardSaid : Prop := Claim7.holds Tryz.pinned (.plain (OpenSpec.ofChange stmtShowsSpec)) stmtShowsCard

/-- THE TIED CARD OF 'capstanlaw07.StmtBack'. -/
def stmtBackCard : Claim7 := { stood := { row := stmtBackRow, standIns := [], harness := (true, "c344629bb8be552f6a06b3730de35900fa3ad529c88abde0b08d2bbe52b6d6f2"), looks := true }, kinds := [], alts := [], laidByText := true, laidKinds := [.data, .data, .data, .data, .data, .data, .data, .data, .sentinel, .sentinel, .sentinel, .sentinel, .data], laidTests := true, laidLooks := .later }
def StmtBackCardSaid : Prop := Claim7.holds Tryz.pinned (.plain (OpenSpec.ofChange stmtBackSpec)) stmtBackCard

/-- THE TIED CARD OF 'capstanlaw07.StmtJoins'. -/
def stmtJoinsCard : Claim7 := { stood := { row := stmtJoinsRow, standIns := [], harness := (true, "c344629bb8be552f6a06b3730de35900fa3ad529c88abde0b08d2bbe52b6d6f2"), looks := true }, kinds := [], alts := [], laidByText := true, laidKinds := [.data, .data, .data, .data, .data, .data, .data, .data, .sentinel, .sentinel, .sentinel, .sentinel, .data], laidTests := true, laidLooks := .later }
def StmtJoinsCardSaid : Prop := Claim7.holds Tryz.pinned (.plain (OpenSpec.ofChange stmtJoinsSpec)) stmtJoinsCard

/-- THE TIED CARD OF 'capstanlaw07.StmtWraps'. -/
def stmtWrapsCard : Claim7 := { stood := { row := stmtWrapsRow, standIns := [], harness := (true, "c344629bb8be552f6a06b3730de35900fa3ad529c88abde0b08d2bbe52b6d6f2"), looks := true }, kinds := [], alts := [], laidByText := true, laidKinds := [.data, .data, .data, .data, .data, .data, .data, .data, .sentinel, .sentinel, .sentinel, .sentinel, .data], laidTests := true, laidLooks := .later }
def StmtWrapsCardSaid : Prop := Claim7.holds Tryz.pinned (.plain (OpenSpec.ofChange stmtWrapsSpec)) stmtWrapsCard

/-- THE TIED CARD OF 'capstanlaw07.StmtCounts'. -/
def stmtCountsCard : Claim7 := { stood := { row := stmtCountsRow, standIns := [], harness := (true, "c344629bb8be552f6a06b3730de35900fa3ad529c88abde0b08d2bbe52b6d6f2"), looks := true }, kinds := [], alts := [], laidByText := true, laidKinds := [.data, .data, .data, .data, .data, .data, .data, .data, .sentinel, .sentinel, .sentinel, .sentinel, .data], laidTests := true, laidLooks := .later }
def StmtCountsCardSaid : Prop := Claim7.holds Tryz.pinned (.plain (OpenSpec.ofChange stmtCountsSpec)) stmtCountsCard

/-- THE SECOND FORM's CARD OF 'capstanlaw07.StmtReads'. -/
def stmtReadsUptoCard : Claim7 := { stood := { row := stmtReadsUptoRow, standIns := [], harness := (true, "c344629bb8be552f6a06b3730de35900fa3ad529c88abde0b08d2bbe52b6d6f2"), looks := true }, kinds := [], alts := [], laidByText := true, laidKinds := [.data, .data, .data, .data, .data, .data, .data, .data, .sentinel, .sentinel, .sentinel, .sentinel, .data], laidTests := true, laidLooks := .later }
def StmtReadsUptoCardSaid : Prop := Claim7.holds Tryz.pinned (.plain (OpenSpec.upto stmtReadsSpec)) stmtReadsUptoCard

/-- THE SECOND FORM's CARD OF 'capstanlaw07.StmtShows'. -/
def stmtShowsUptoCard : Claim7 := { stood := { row := stmtShowsUptoRow, standIns := [], harness := (true, "c344629bb8be552f6a06b3730de35900fa3ad529c88abde0b08d2bbe52b6d6f2"), looks := true }, kinds := [], alts := [], laidByText := true, laidKinds := [.data, .data, .data, .data, .data, .data, .data, .data, .sentinel, .sentinel, .sentinel, .sentinel, .data], laidTests := true, laidLooks := .later }
def StmtShowsUptoCardSaid : Prop := Claim7.holds Tryz.pinned (.plain (OpenSpec.upto stmtShowsSpec)) stmtShowsUptoCard

/-- THE SECOND FORM's CARD OF 'capstanlaw07.StmtBack'. -/
def stmtBackUptoCard : Claim7 := { stood := { row := stmtBackUptoRow, standIns := [], harness := (true, "c344629bb8be552f6a06b3730de35900fa3ad529c88abde0b08d2bbe52b6d6f2"), looks := true }, kinds := [], alts := [], laidByText := true, laidKinds := [.data, .data, .data, .data, .data, .data, .data, .data, .sentinel, .sentinel, .sentinel, .sentinel, .data], laidTests := true, laidLooks := .later }
def StmtBackUptoCardSaid : Prop := Claim7.holds Tryz.pinned (.plain (OpenSpec.upto stmtBackSpec)) stmtBackUptoCard

/-- THE SECOND FORM's CARD OF 'capstanlaw07.StmtJoins'. -/
def stmtJoinsUptoCard : Claim7 := { stood := { row := stmtJoinsUptoRow, standIns := [], harness := (true, "c344629bb8be552f6a06b3730de35900fa3ad529c88abde0b08d2bbe52b6d6f2"), looks := true }, kinds := [], alts := [], laidByText := true, laidKinds := [.data, .data, .data, .data, .data, .data, .data, .data, .sentinel, .sentinel, .sentinel, .sentinel, .data], laidTests := true, laidLooks := .later }
def StmtJoinsUptoCardSaid : Prop := Claim7.holds Tryz.pinned (.plain (OpenSpec.upto stmtJoinsSpec)) stmtJoinsUptoCard

/-- THE SECOND FORM's CARD OF 'capstanlaw07.StmtWraps'. -/
def stmtWrapsUptoCard : Claim7 := { stood := { row := stmtWrapsUptoRow, standIns := [], harness := (true, "c344629bb8be552f6a06b3730de35900fa3ad529c88abde0b08d2bbe52b6d6f2"), looks := true }, kinds := [], alts := [], laidByText := true, laidKinds := [.data, .data, .data, .data, .data, .data, .data, .data, .sentinel, .sentinel, .sentinel, .sentinel, .data], laidTests := true, laidLooks := .later }
def StmtWrapsUptoCardSaid : Prop := Claim7.holds Tryz.pinned (.plain (OpenSpec.upto stmtWrapsSpec)) stmtWrapsUptoCard

/-- THE SECOND FORM's CARD OF 'capstanlaw07.StmtCounts'. -/
def stmtCountsUptoCard : Claim7 := { stood := { row := stmtCountsUptoRow, standIns := [], harness := (true, "c344629bb8be552f6a06b3730de35900fa3ad529c88abde0b08d2bbe52b6d6f2"), looks := true }, kinds := [], alts := [], laidByText := true, laidKinds := [.data, .data, .data, .data, .data, .data, .data, .data, .sentinel, .sentinel, .sentinel, .sentinel, .data], laidTests := true, laidLooks := .later }
def StmtCountsUptoCardSaid : Prop := Claim7.holds Tryz.pinned (.plain (OpenSpec.upto stmtCountsSpec)) stmtCountsUptoCard
end Rows
end Go.Proofs.YtekanffohkeoeaaGreatDoor
