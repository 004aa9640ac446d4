/-
  DERIVED. GIVEN WITH THE SEED: THE PROGRAM's TIES (one call each: nine closed facts by the kernel) AND EACH ROW's TIE, after the 31st guide's Derived/Test/Toyas{Tie, Card}.lean. No idea stands in it: it is a product of the set-up. Laid BY PROGRAM, IN A SANDBOX (cutbox-door.mjs). By AI agents, Wed Nov 11 2026. No macro, syntax, notation, axiom, sorry.
-/
import Derived.Test.YtekanffohkeoeaaGreatDoorRows
import Derived.LaidByTextLater
import Derived.SevenTiedAt
import Derived.LaidSub
import Derived.LaidOnce
namespace Go.Proofs.YtekanffohkeoeaaGreatDoor
open Go
set_option maxRecDepth 100000
theorem seatTie1 : Tryz.prog.laidByTextLater [("capstan/num.spans", Rows.laid_capstan_num_spans), ("capstan/expr.keywords", Rows.laid_capstan_expr_keywords), ("capstan/expr.operations", Rows.laid_capstan_expr_operations), ("capstan/expr.conversions", Rows.laid_capstan_expr_conversions), ("capstan/lex.signs", Rows.laid_capstan_lex_signs), ("capstan/lex.bases", Rows.laid_capstan_lex_bases), ("capstan/lex.typeNames", Rows.laid_capstan_lex_typeNames), ("capstan/lex.units", Rows.laid_capstan_lex_units), ("capstan/stmt.errToken", Rows.laid_capstan_stmt_errToken), ("capstan/stmt.errExpression", Rows.laid_capstan_stmt_errExpression), ("capstan/stmt.errDepth", Rows.laid_capstan_stmt_errDepth), ("capstan/stmt.errMany", Rows.laid_capstan_stmt_errMany), ("capstan/stmt.namings", Rows.laid_capstan_stmt_namings)] [.data, .data, .data, .data, .data, .data, .data, .data, .sentinel, .sentinel, .sentinel, .sentinel, .data] true :=
  Program.laidByTextLater_by_one 176 8 91 (by kernel_rfl) (by kernel_rfl) (by kernel_rfl) (by kernel_rfl) (by kernel_rfl) (by kernel_rfl) (fun _ _ => by kernel_rfl)
theorem noOwnUnsafe : Tryz.pinned.checked.prog.headLifts.contains "ownunsafe" = false := by kernel_rfl
theorem tie : Tryz.prog.laidByTextLater [("capstan/num.spans", Rows.laid_capstan_num_spans), ("capstan/expr.keywords", Rows.laid_capstan_expr_keywords), ("capstan/expr.operations", Rows.laid_capstan_expr_operations), ("capstan/expr.conversions", Rows.laid_capstan_expr_conversions), ("capstan/lex.signs", Rows.laid_capstan_lex_signs), ("capstan/lex.bases", Rows.laid_capstan_lex_bases), ("capstan/lex.typeNames", Rows.laid_capstan_lex_typeNames), ("capstan/lex.units", Rows.laid_capstan_lex_units), ("capstan/stmt.errToken", Rows.laid_capstan_stmt_errToken), ("capstan/stmt.errExpression", Rows.laid_capstan_stmt_errExpression), ("capstan/stmt.errDepth", Rows.laid_capstan_stmt_errDepth), ("capstan/stmt.errMany", Rows.laid_capstan_stmt_errMany), ("capstan/stmt.namings", Rows.laid_capstan_stmt_namings)] [.data, .data, .data, .data, .data, .data, .data, .data, .sentinel, .sentinel, .sentinel, .sentinel, .data] true :=
  Program.laidByTextLater.sub seatTie1 ["capstan/num.spans", "capstan/expr.keywords", "capstan/expr.operations", "capstan/expr.conversions", "capstan/lex.signs", "capstan/lex.bases", "capstan/lex.typeNames", "capstan/lex.units", "capstan/stmt.errToken", "capstan/stmt.errExpression", "capstan/stmt.errDepth", "capstan/stmt.errMany", "capstan/stmt.namings"] (by kernel_rfl) (by kernel_rfl)
theorem stmtReads_row_tie : Rows.stmtReadsRow.laidByTextAt .later Tryz.pinned [.data, .data, .data, .data, .data, .data, .data, .data, .sentinel, .sentinel, .sentinel, .sentinel, .data] true :=
  OpenClaim.laidByTextAt_later rfl rfl tie noOwnUnsafe
theorem stmtShows_row_tie : Rows.stmtShowsRow.laidByTextAt .later Tryz.pinned [.data, .data, .data, .data, .data, .data, .data, .data, .sentinel, .sentinel, .sentinel, .sentinel, .data] true :=
  OpenClaim.laidByTextAt_later rfl rfl tie noOwnUnsafe
theorem stmtBack_row_tie : Rows.stmtBackRow.laidByTextAt .later Tryz.pinned [.data, .data, .data, .data, .data, .data, .data, .data, .sentinel, .sentinel, .sentinel, .sentinel, .data] true :=
  OpenClaim.laidByTextAt_later rfl rfl tie noOwnUnsafe
theorem stmtJoins_row_tie : Rows.stmtJoinsRow.laidByTextAt .later Tryz.pinned [.data, .data, .data, .data, .data, .data, .data, .data, .sentinel, .sentinel, .sentinel, .sentinel, .data] true :=
  OpenClaim.laidByTextAt_later rfl rfl tie noOwnUnsafe
theorem stmtWraps_row_tie : Rows.stmtWrapsRow.laidByTextAt .later Tryz.pinned [.data, .data, .data, .data, .data, .data, .data, .data, .sentinel, .sentinel, .sentinel, .sentinel, .data] true :=
  OpenClaim.laidByTextAt_later rfl rfl tie noOwnUnsafe
theorem stmtCounts_row_tie : Rows.stmtCountsRow.laidByTextAt .later Tryz.pinned [.data, .data, .data, .data, .data, .data, .data, .data, .sentinel, .sentinel, .sentinel, .sentinel, .data] true :=
  OpenClaim.laidByTextAt_later rfl rfl tie noOwnUnsafe
theorem stmtReadsUpto_row_tie : Rows.stmtReadsUptoRow.laidByTextAt .later Tryz.pinned [.data, .data, .data, .data, .data, .data, .data, .data, .sentinel, .sentinel, .sentinel, .sentinel, .data] true :=
  OpenClaim.laidByTextAt_later rfl rfl tie noOwnUnsafe
theorem stmtShowsUpto_row_tie : Rows.stmtShowsUptoRow.laidByTextAt .later Tryz.pinned [.data, .data, .data, .data, .data, .data, .data, .data, .sentinel, .sentinel, .sentinel, .sentinel, .data] true :=
  OpenClaim.laidByTextAt_later rfl rfl tie noOwnUnsafe
theorem stmtBackUpto_row_tie : Rows.stmtBackUptoRow.laidByTextAt .later Tryz.pinned [.data, .data, .data, .data, .data, .data, .data, .data, .sentinel, .sentinel, .sentinel, .sentinel, .data] true :=
  OpenClaim.laidByTextAt_later rfl rfl tie noOwnUnsafe
theorem stmtJoinsUpto_row_tie : Rows.stmtJoinsUptoRow.laidByTextAt .later Tryz.pinned [.data, .data, .data, .data, .data, .data, .data, .data, .sentinel, .sentinel, .sentinel, .sentinel, .data] true :=
  OpenClaim.laidByTextAt_later rfl rfl tie noOwnUnsafe
theorem stmtWrapsUpto_row_tie : Rows.stmtWrapsUptoRow.laidByTextAt .later Tryz.pinned [.data, .data, .data, .data, .data, .data, .data, .data, .sentinel, .sentinel, .sentinel, .sentinel, .data] true :=
  OpenClaim.laidByTextAt_later rfl rfl tie noOwnUnsafe
theorem stmtCountsUpto_row_tie : Rows.stmtCountsUptoRow.laidByTextAt .later Tryz.pinned [.data, .data, .data, .data, .data, .data, .data, .data, .sentinel, .sentinel, .sentinel, .sentinel, .data] true :=
  OpenClaim.laidByTextAt_later rfl rfl tie noOwnUnsafe
end Go.Proofs.YtekanffohkeoeaaGreatDoor
