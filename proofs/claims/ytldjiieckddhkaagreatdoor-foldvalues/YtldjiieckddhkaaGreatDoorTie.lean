/-
  DERIVED. GIVEN WITH THE SEED: THE PROGRAM's TIES (one call each: nine closed facts by the kernel) AND EACH ROW's TIE, after the 31st guide's Derived/Test/Toyas{Tie, Card}.lean. No idea stands in it: it is a product of the set-up. Laid BY PROGRAM, IN A SANDBOX (cutbox-door.mjs). By AI agents, Wed Nov 11 2026. No macro, syntax, notation, axiom, sorry.
-/
import Derived.Test.YtldjiieckddhkaaGreatDoorRows
import Derived.LaidByTextLater
import Derived.SevenTiedAt
import Derived.LaidSub
import Derived.LaidOnce
namespace Go.Proofs.YtldjiieckddhkaaGreatDoor
open Go
set_option maxRecDepth 100000
theorem seatTie1 : Tryz.prog.laidByTextLater [("capstan/num.spans", Rows.laid_capstan_num_spans), ("capstan/expr.keywords", Rows.laid_capstan_expr_keywords), ("capstan/expr.operations", Rows.laid_capstan_expr_operations), ("capstan/expr.conversions", Rows.laid_capstan_expr_conversions), ("capstan/stmt.namings", Rows.laid_capstan_stmt_namings), ("capstan/decl.typeWords", Rows.laid_capstan_decl_typeWords), ("capstan/decl.sectionWords", Rows.laid_capstan_decl_sectionWords)] [.data, .data, .data, .data, .data, .data, .data] true :=
  Program.laidByTextLater_by_one 94 8 91 (by kernel_rfl) (by kernel_rfl) (by kernel_rfl) (by kernel_rfl) (by kernel_rfl) (by kernel_rfl) (fun _ _ => by kernel_rfl)
theorem noOwnUnsafe : Tryz.pinned.checked.prog.headLifts.contains "ownunsafe" = false := by kernel_rfl
theorem tie : Tryz.prog.laidByTextLater [("capstan/num.spans", Rows.laid_capstan_num_spans), ("capstan/expr.keywords", Rows.laid_capstan_expr_keywords), ("capstan/expr.operations", Rows.laid_capstan_expr_operations), ("capstan/expr.conversions", Rows.laid_capstan_expr_conversions), ("capstan/stmt.namings", Rows.laid_capstan_stmt_namings), ("capstan/decl.typeWords", Rows.laid_capstan_decl_typeWords), ("capstan/decl.sectionWords", Rows.laid_capstan_decl_sectionWords)] [.data, .data, .data, .data, .data, .data, .data] true :=
  Program.laidByTextLater.sub seatTie1 ["capstan/num.spans", "capstan/expr.keywords", "capstan/expr.operations", "capstan/expr.conversions", "capstan/stmt.namings", "capstan/decl.typeWords", "capstan/decl.sectionWords"] (by kernel_rfl) (by kernel_rfl)
theorem foldResolves_row_tie : Rows.foldResolvesRow.laidByTextAt .later Tryz.pinned [.data, .data, .data, .data, .data, .data, .data] true :=
  OpenClaim.laidByTextAt_later rfl rfl tie noOwnUnsafe
theorem foldValues_row_tie : Rows.foldValuesRow.laidByTextAt .later Tryz.pinned [.data, .data, .data, .data, .data, .data, .data] true :=
  OpenClaim.laidByTextAt_later rfl rfl tie noOwnUnsafe
theorem foldStays_row_tie : Rows.foldStaysRow.laidByTextAt .later Tryz.pinned [.data, .data, .data, .data, .data, .data, .data] true :=
  OpenClaim.laidByTextAt_later rfl rfl tie noOwnUnsafe
theorem foldOne_row_tie : Rows.foldOneRow.laidByTextAt .later Tryz.pinned [.data, .data, .data, .data, .data, .data, .data] true :=
  OpenClaim.laidByTextAt_later rfl rfl tie noOwnUnsafe
theorem foldNames_row_tie : Rows.foldNamesRow.laidByTextAt .later Tryz.pinned [.data, .data, .data, .data, .data, .data, .data] true :=
  OpenClaim.laidByTextAt_later rfl rfl tie noOwnUnsafe
theorem foldResolvesUpto_row_tie : Rows.foldResolvesUptoRow.laidByTextAt .later Tryz.pinned [.data, .data, .data, .data, .data, .data, .data] true :=
  OpenClaim.laidByTextAt_later rfl rfl tie noOwnUnsafe
theorem foldValuesUpto_row_tie : Rows.foldValuesUptoRow.laidByTextAt .later Tryz.pinned [.data, .data, .data, .data, .data, .data, .data] true :=
  OpenClaim.laidByTextAt_later rfl rfl tie noOwnUnsafe
theorem foldStaysUpto_row_tie : Rows.foldStaysUptoRow.laidByTextAt .later Tryz.pinned [.data, .data, .data, .data, .data, .data, .data] true :=
  OpenClaim.laidByTextAt_later rfl rfl tie noOwnUnsafe
theorem foldOneUpto_row_tie : Rows.foldOneUptoRow.laidByTextAt .later Tryz.pinned [.data, .data, .data, .data, .data, .data, .data] true :=
  OpenClaim.laidByTextAt_later rfl rfl tie noOwnUnsafe
theorem foldNamesUpto_row_tie : Rows.foldNamesUptoRow.laidByTextAt .later Tryz.pinned [.data, .data, .data, .data, .data, .data, .data] true :=
  OpenClaim.laidByTextAt_later rfl rfl tie noOwnUnsafe
end Go.Proofs.YtldjiieckddhkaaGreatDoor
