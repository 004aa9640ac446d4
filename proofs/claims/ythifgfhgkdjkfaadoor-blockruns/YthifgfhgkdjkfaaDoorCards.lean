/-
  DERIVED. GIVEN WITH THE SEED: THE CARDS: each row of YthifgfhgkdjkfaaDoorRows.lean that lists a variable, with what it lists TIED to the program's text (the seventh form; the later family's looks); each row that meets fmt, with fmt's text TOLD by the authors' own Lean function (tested against real Go, not proved from fmt's source: count such statements apart). THE CARD IS WHAT COUNTS. Prove the row's statement (the work); the ties are given (YthifgfhgkdjkfaaDoorTie.lean); close each card by the builder's one call (the guide's Derived/Test/ToyasCard.lean, 'card_holds'). Laid BY PROGRAM, IN A SANDBOX (cutbox-door.mjs). By AI agents, Wed Nov 11 2026. No macro, syntax, notation, axiom, sorry.
-/
import Derived.Test.YthifgfhgkdjkfaaDoorRows
import GoSem.ClaimSeven
namespace Go.Proofs.YthifgfhgkdjkfaaDoor
namespace Rows

/-- THE TIED CARD OF 'capstanlaw12.BlockSteps'. -/
def blockStepsCard : Claim7 := { stood := { row := blockStepsRow, standIns := [], harness := (true, "7d69d08e008dc1ee1d4c93cca151ea5f2b20a01d7d8a1eea0152f0f8b48cb8b2"), looks := false }, kinds := [], alts := [], laidByText := true, laidKinds := [.data], laidTests := true, laidLooks := .later }
def BlockStepsCardSaid : Prop := Claim7.holds Tryd.pinned (.plain (OpenSpec.ofChange blockStepsSpec)) blockStepsCard

/-- THE TIED CARD OF 'capstanlaw12.BlockRuns'. -/
def blockRunsCard : Claim7 := { stood := { row := blockRunsRow, standIns := [], harness := (true, "7d69d08e008dc1ee1d4c93cca151ea5f2b20a01d7d8a1eea0152f0f8b48cb8b2"), looks := false }, kinds := [], alts := [], laidByText := true, laidKinds := [.data], laidTests := true, laidLooks := .later }
def BlockRunsCardSaid : Prop := Claim7.holds Tryd.pinned (.plain (OpenSpec.ofChange blockRunsSpec)) blockRunsCard

/-- THE TIED CARD OF 'capstanlaw12.BlockTimes'. -/
def blockTimesCard : Claim7 := { stood := { row := blockTimesRow, standIns := [], harness := (true, "7d69d08e008dc1ee1d4c93cca151ea5f2b20a01d7d8a1eea0152f0f8b48cb8b2"), looks := false }, kinds := [], alts := [], laidByText := true, laidKinds := [.data], laidTests := true, laidLooks := .later }
def BlockTimesCardSaid : Prop := Claim7.holds Tryd.pinned (.plain (OpenSpec.ofChange blockTimesSpec)) blockTimesCard

/-- THE TIED CARD OF 'capstanlaw12.BlockEdges'. -/
def blockEdgesCard : Claim7 := { stood := { row := blockEdgesRow, standIns := [], harness := (true, "7d69d08e008dc1ee1d4c93cca151ea5f2b20a01d7d8a1eea0152f0f8b48cb8b2"), looks := false }, kinds := [], alts := [], laidByText := true, laidKinds := [.data], laidTests := true, laidLooks := .later }
def BlockEdgesCardSaid : Prop := Claim7.holds Tryd.pinned (.plain (OpenSpec.ofChange blockEdgesSpec)) blockEdgesCard

/-- THE TIED CARD OF 'capstanlaw12.BlockKeeps'. -/
def blockKeepsCard : Claim7 := { stood := { row := blockKeepsRow, standIns := [], harness := (true, "7d69d08e008dc1ee1d4c93cca151ea5f2b20a01d7d8a1eea0152f0f8b48cb8b2"), looks := false }, kinds := [], alts := [], laidByText := true, laidKinds := [.data], laidTests := true, laidLooks := .later }
def BlockKeepsCardSaid : Prop := Claim7.holds Tryd.pinned (.plain (OpenSpec.ofChange blockKeepsSpec)) blockKeepsCard

/-- THE TIED CARD OF 'capstanlaw12.BlockCounts'. -/
def blockCountsCard : Claim7 := { stood := { row := blockCountsRow, standIns := [], harness := (true, "7d69d08e008dc1ee1d4c93cca151ea5f2b20a01d7d8a1eea0152f0f8b48cb8b2"), looks := false }, kinds := [], alts := [], laidByText := true, laidKinds := [.data], laidTests := true, laidLooks := .later }
def BlockCountsCardSaid : Prop := Claim7.holds Tryd.pinned (.plain (OpenSpec.ofChange blockCountsSpec)) blockCountsCard

/-- THE SECOND FORM's CARD OF 'capstanlaw12.BlockSteps'. -/
def blockStepsUptoCard : Claim7 := { stood := { row := blockStepsUptoRow, standIns := [], harness := (true, "7d69d08e008dc1ee1d4c93cca151ea5f2b20a01d7d8a1eea0152f0f8b48cb8b2"), looks := false }, kinds := [], alts := [], laidByText := true, laidKinds := [.data], laidTests := true, laidLooks := .later }
def BlockStepsUptoCardSaid : Prop := Claim7.holds Tryd.pinned (.plain (OpenSpec.upto blockStepsSpec)) blockStepsUptoCard

/-- THE SECOND FORM's CARD OF 'capstanlaw12.BlockRuns'. -/
def blockRunsUptoCard : Claim7 := { stood := { row := blockRunsUptoRow, standIns := [], harness := (true, "7d69d08e008dc1ee1d4c93cca151ea5f2b20a01d7d8a1eea0152f0f8b48cb8b2"), looks := false }, kinds := [], alts := [], laidByText := true, laidKinds := [.data], laidTests := true, laidLooks := .later }
def BlockRunsUptoCardSaid : Prop := Claim7.holds Tryd.pinned (.plain (OpenSpec.upto blockRunsSpec)) blockRunsUptoCard

/-- THE SECOND FORM's CARD OF 'capstanlaw12.BlockTimes'. -/
def blockTimesUptoCard : Claim7 := { stood := { row := blockTimesUptoRow, standIns := [], harness := (true, "7d69d08e008dc1ee1d4c93cca151ea5f2b20a01d7d8a1eea0152f0f8b48cb8b2"), looks := false }, kinds := [], alts := [], laidByText := true, laidKinds := [.data], laidTests := true, laidLooks := .later }
def BlockTimesUptoCardSaid : Prop := Claim7.holds Tryd.pinned (.plain (OpenSpec.upto blockTimesSpec)) blockTimesUptoCard

/-- THE SECOND FORM's CARD OF 'capstanlaw12.BlockEdges'. -/
def blockEdgesUptoCard : Claim7 := { stood := { row := blockEdgesUptoRow, standIns := [], harness := (true, "7d69d08e008dc1ee1d4c93cca151ea5f2b20a01d7d8a1eea0152f0f8b48cb8b2"), looks := false }, kinds := [], alts := [], laidByText := true, laidKinds := [.data], laidTests := true, laidLooks := .later }
def BlockEdgesUptoCardSaid : Prop := Claim7.holds Tryd.pinned (.plain (OpenSpec.upto blockEdgesSpec)) blockEdgesUptoCard

/-- THE SECOND FORM's CARD OF 'capstanlaw12.BlockKeeps'. -/
def blockKeepsUptoCard : Claim7 := { stood := { row := blockKeepsUptoRow, standIns := [], harness := (true, "7d69d08e008dc1ee1d4c93cca151ea5f2b20a01d7d8a1eea0152f0f8b48cb8b2"), looks := false }, kinds := [], alts := [], laidByText := true, laidKinds := [.data], laidTests := true, laidLooks := .later }
def BlockKeepsUptoCardSaid : Prop := Claim7.holds Tryd.pinned (.plain (OpenSpec.upto blockKeepsSpec)) blockKeepsUptoCard

/-- THE SECOND FORM's CARD OF 'capstanlaw12.BlockCounts'. -/
def blockCountsUptoCard : Claim7 := { stood := { row := blockCountsUptoRow, standIns := [], harness := (true, "7d69d08e008dc1ee1d4c93cca151ea5f2b20a01d7d8a1eea0152f0f8b48cb8b2"), looks := false }, kinds := [], alts := [], laidByText := true, laidKinds := [.data], laidTests := true, laidLooks := .later }
def BlockCountsUptoCardSaid : Prop := Claim7.holds Tryd.pinned (.plain (OpenSpec.upto blockCountsSpec)) blockCountsUptoCard
end Rows
end Go.Proofs.YthifgfhgkdjkfaaDoor
