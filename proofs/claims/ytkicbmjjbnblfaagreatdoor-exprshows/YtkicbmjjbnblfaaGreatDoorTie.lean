/-
  DERIVED. GIVEN WITH THE SEED: THE PROGRAM's TIES (one call each: nine closed facts by the kernel) AND EACH ROW's TIE, after the 31st guide's Derived/Test/Toyas{Tie, Card}.lean. No idea stands in it: it is a product of the set-up. Laid BY PROGRAM, IN A SANDBOX (cutbox-door.mjs). By AI agents, Wed Nov 11 2026. No macro, syntax, notation, axiom, sorry.
-/
import Derived.Test.YtkicbmjjbnblfaaGreatDoorRows
import Derived.LaidByTextLater
import Derived.SevenTiedAt
import Derived.LaidSub
import Derived.LaidOnce
namespace Go.Proofs.YtkicbmjjbnblfaaGreatDoor
open Go
set_option maxRecDepth 100000
theorem seatTie1 : Tryz.prog.laidByTextLater [("capstan/num.spans", Rows.laid_capstan_num_spans), ("capstan/expr.keywords", Rows.laid_capstan_expr_keywords), ("capstan/expr.operations", Rows.laid_capstan_expr_operations), ("capstan/expr.conversions", Rows.laid_capstan_expr_conversions), ("capstan/lex.signs", Rows.laid_capstan_lex_signs), ("capstan/lex.bases", Rows.laid_capstan_lex_bases), ("capstan/lex.typeNames", Rows.laid_capstan_lex_typeNames), ("capstan/lex.units", Rows.laid_capstan_lex_units)] [.data, .data, .data, .data, .data, .data, .data, .data] true :=
  Program.laidByTextLater_by_one 86 8 69 (by kernel_rfl) (by kernel_rfl) (by kernel_rfl) (by kernel_rfl) (by kernel_rfl) (by kernel_rfl) (fun _ _ => by kernel_rfl)
theorem noOwnUnsafe : Tryz.pinned.checked.prog.headLifts.contains "ownunsafe" = false := by kernel_rfl
theorem tie : Tryz.prog.laidByTextLater [("capstan/num.spans", Rows.laid_capstan_num_spans), ("capstan/expr.keywords", Rows.laid_capstan_expr_keywords), ("capstan/expr.operations", Rows.laid_capstan_expr_operations), ("capstan/expr.conversions", Rows.laid_capstan_expr_conversions), ("capstan/lex.signs", Rows.laid_capstan_lex_signs), ("capstan/lex.bases", Rows.laid_capstan_lex_bases), ("capstan/lex.typeNames", Rows.laid_capstan_lex_typeNames), ("capstan/lex.units", Rows.laid_capstan_lex_units)] [.data, .data, .data, .data, .data, .data, .data, .data] true :=
  Program.laidByTextLater.sub seatTie1 ["capstan/num.spans", "capstan/expr.keywords", "capstan/expr.operations", "capstan/expr.conversions", "capstan/lex.signs", "capstan/lex.bases", "capstan/lex.typeNames", "capstan/lex.units"] (by kernel_rfl) (by kernel_rfl)
theorem exprShows_row_tie : Rows.exprShowsRow.laidByTextAt .later Tryz.pinned [.data, .data, .data, .data, .data, .data, .data, .data] true :=
  OpenClaim.laidByTextAt_later rfl rfl tie noOwnUnsafe
theorem exprShowsUpto_row_tie : Rows.exprShowsUptoRow.laidByTextAt .later Tryz.pinned [.data, .data, .data, .data, .data, .data, .data, .data] true :=
  OpenClaim.laidByTextAt_later rfl rfl tie noOwnUnsafe
end Go.Proofs.YtkicbmjjbnblfaaGreatDoor
