/-
  NARROWER THAN 'FOR EVERY INPUT', by the rows' own cells (each row's printed sentence says how): FoldResolves: laid · FoldValues: laid · FoldStays: laid · FoldOne: laid · FoldNames: laid.
  DERIVED. THE GIVEN ROWS OF THIS SEAT. 5 by the template 'for every input the law returns true; each argument reads behind the call as it read before'; 0 by the template 'total and deterministic' (their statements: YtldjiieckddhkaaGreatDoorTotals.lean).
  GIVEN WITH THE SEED: the statements are not yours to turn. If you find one false, say at which input.
  Laid BY PROGRAM, IN A SANDBOX (cutbox-rows.mjs): the forced cells as the released guide's own fill.sh prints them over the translation f141e54fc3d4b4b7… (all of the seat's roots in one cut). By AI agents, Wed Nov 11 2026. No macro, syntax, notation, axiom, sorry.
-/
import Derived.Test.YtldjiieckddhkaaGreatDoorChecked
import GoSem.Claim
import GoSem.ClaimJoined
import GoSem.ClaimMapViews
import Derived.JoinedTies
import Derived.KernelRfl
namespace Go.Proofs.YtldjiieckddhkaaGreatDoor
/- THE CELL 'sum', in the pinned program and in every row, IS THE sha256 OF THE DUMP (.gsa) THAT YtldjiieckddhkaaGreatDoorProg.lean LOADS. Nothing in Lean hashes anything: it is a label: what it is worth is what the hold of that sum in a sandbox is worth. -/
noncomputable def Tryz.pinned : Pinned := { name := "ytldjiieckddhkaagreatdoor", sum := "f141e54fc3d4b4b7c53df3bb7c0a07075c57328fc25d0dbb2beeb4455a18cf5e", checked := Tryz.checked }
namespace Rows
def none {H : Type} : Left H := { results := [], args := [] }

/- WHAT THE LISTED PACKAGE-LEVEL VARIABLES READ AS WHEN THE CALL BEGINS. Each datum BY PROGRAM (the guide's laid-datum.mjs) off the statement by which the dump's own 'gosem.cut.vars' lays the variable. In a bare row this is a premise. The card (YtldjiieckddhkaaGreatDoorCards.lean) ties it to the program's text. -/
def laid_capstan_num_spans {H : Type} : DataW H := .agg [.agg [.lit (.int .i64 0), .lit (.int .i64 0)], .agg [.lit (.int .i64 0), .lit (.int .i64 1)], .agg [.lit (.int .i64 (-32768)), .lit (.int .i64 32767)], .agg [.lit (.int .i64 (-2147483648)), .lit (.int .i64 2147483647)], .agg [.lit (.int .i64 (-2147483648)), .lit (.int .i64 2147483647)]]
def laid_capstan_expr_keywords {H : Type} : DataW H := .agg [.lit (.string [80, 82, 79, 71, 82, 65, 77]), .lit (.string [69, 78, 68, 95, 80, 82, 79, 71, 82, 65, 77]), .lit (.string [86, 65, 82]), .lit (.string [86, 65, 82, 95, 73, 78, 80, 85, 84]), .lit (.string [86, 65, 82, 95, 79, 85, 84, 80, 85, 84]), .lit (.string [69, 78, 68, 95, 86, 65, 82]), .lit (.string [65, 82, 82, 65, 89]), .lit (.string [79, 70]), .lit (.string [66, 79, 79, 76]), .lit (.string [73, 78, 84]), .lit (.string [68, 73, 78, 84]), .lit (.string [84, 73, 77, 69]), .lit (.string [84, 79, 78]), .lit (.string [84, 79, 70]), .lit (.string [84, 80]), .lit (.string [67, 84, 85]), .lit (.string [67, 84, 68]), .lit (.string [82, 95, 84, 82, 73, 71]), .lit (.string [70, 95, 84, 82, 73, 71]), .lit (.string [83, 82]), .lit (.string [82, 83]), .lit (.string [81, 85, 65, 68]), .lit (.string [73, 70]), .lit (.string [84, 72, 69, 78]), .lit (.string [69, 76, 83, 73, 70]), .lit (.string [69, 76, 83, 69]), .lit (.string [69, 78, 68, 95, 73, 70]), .lit (.string [67, 65, 83, 69]), .lit (.string [69, 78, 68, 95, 67, 65, 83, 69]), .lit (.string [87, 72, 73, 76, 69]), .lit (.string [68, 79]), .lit (.string [69, 78, 68, 95, 87, 72, 73, 76, 69]), .lit (.string [70, 79, 82]), .lit (.string [84, 79]), .lit (.string [66, 89]), .lit (.string [69, 78, 68, 95, 70, 79, 82]), .lit (.string [82, 69, 80, 69, 65, 84]), .lit (.string [85, 78, 84, 73, 76]), .lit (.string [69, 78, 68, 95, 82, 69, 80, 69, 65, 84]), .lit (.string [69, 88, 73, 84]), .lit (.string [82, 69, 84, 85, 82, 78]), .lit (.string [65, 78, 68]), .lit (.string [79, 82]), .lit (.string [88, 79, 82]), .lit (.string [78, 79, 84]), .lit (.string [77, 79, 68]), .lit (.string [84, 82, 85, 69]), .lit (.string [70, 65, 76, 83, 69]), .lit (.string [84, 79, 95, 73, 78, 84]), .lit (.string [84, 79, 95, 68, 73, 78, 84]), .lit (.string [84, 79, 95, 84, 73, 77, 69])]
def laid_capstan_expr_operations {H : Type} : DataW H := .agg [.agg [.lit (.int .i64 0), .lit (.int .i64 1), .lit (.string [79, 82]), .lit (.int .i64 7)], .agg [.lit (.int .i64 1), .lit (.int .i64 1), .lit (.string [88, 79, 82]), .lit (.int .i64 8)], .agg [.lit (.int .i64 2), .lit (.int .i64 1), .lit (.string [65, 78, 68]), .lit (.int .i64 6)], .agg [.lit (.int .i64 2), .lit (.int .i64 3), .lit (.string [38]), .lit (.int .i64 6)], .agg [.lit (.int .i64 3), .lit (.int .i64 3), .lit (.string [61]), .lit (.int .i64 9)], .agg [.lit (.int .i64 3), .lit (.int .i64 3), .lit (.string [60, 62]), .lit (.int .i64 10)], .agg [.lit (.int .i64 4), .lit (.int .i64 3), .lit (.string [60]), .lit (.int .i64 11)], .agg [.lit (.int .i64 4), .lit (.int .i64 3), .lit (.string [60, 61]), .lit (.int .i64 12)], .agg [.lit (.int .i64 4), .lit (.int .i64 3), .lit (.string [62]), .lit (.int .i64 13)], .agg [.lit (.int .i64 4), .lit (.int .i64 3), .lit (.string [62, 61]), .lit (.int .i64 14)], .agg [.lit (.int .i64 5), .lit (.int .i64 3), .lit (.string [43]), .lit (.int .i64 1)], .agg [.lit (.int .i64 5), .lit (.int .i64 3), .lit (.string [45]), .lit (.int .i64 2)], .agg [.lit (.int .i64 6), .lit (.int .i64 3), .lit (.string [42]), .lit (.int .i64 3)], .agg [.lit (.int .i64 6), .lit (.int .i64 3), .lit (.string [47]), .lit (.int .i64 4)], .agg [.lit (.int .i64 6), .lit (.int .i64 1), .lit (.string [77, 79, 68]), .lit (.int .i64 5)], .agg [.lit (.int .i64 7), .lit (.int .i64 1), .lit (.string [78, 79, 84]), .lit (.int .i64 16)], .agg [.lit (.int .i64 7), .lit (.int .i64 3), .lit (.string [45]), .lit (.int .i64 15)]]
def laid_capstan_expr_conversions {H : Type} : DataW H := .agg [.agg [.lit (.string [84, 79, 95, 73, 78, 84]), .lit (.int .i64 2)], .agg [.lit (.string [84, 79, 95, 68, 73, 78, 84]), .lit (.int .i64 3)], .agg [.lit (.string [84, 79, 95, 84, 73, 77, 69]), .lit (.int .i64 4)]]
def laid_capstan_stmt_namings {H : Type} : DataW H := .agg [.agg [.lit (.int .i64 1), .lit (.bool true), .lit (.bool true), .lit (.bool true), .lit (.bool false), .lit (.bool false), .lit (.bool false), .lit (.bool false), .lit (.bool false), .lit (.bool false)], .agg [.lit (.int .i64 2), .lit (.bool false), .lit (.bool false), .lit (.bool true), .lit (.bool false), .lit (.bool false), .lit (.bool true), .lit (.bool true), .lit (.bool false), .lit (.bool false)], .agg [.lit (.int .i64 3), .lit (.bool false), .lit (.bool false), .lit (.bool true), .lit (.bool false), .lit (.bool false), .lit (.bool true), .lit (.bool false), .lit (.bool false), .lit (.bool false)], .agg [.lit (.int .i64 4), .lit (.bool false), .lit (.bool false), .lit (.bool true), .lit (.bool false), .lit (.bool false), .lit (.bool true), .lit (.bool false), .lit (.bool false), .lit (.bool false)], .agg [.lit (.int .i64 5), .lit (.bool true), .lit (.bool false), .lit (.bool true), .lit (.bool true), .lit (.bool true), .lit (.bool true), .lit (.bool false), .lit (.bool false), .lit (.bool false)], .agg [.lit (.int .i64 6), .lit (.bool false), .lit (.bool false), .lit (.bool true), .lit (.bool false), .lit (.bool false), .lit (.bool false), .lit (.bool true), .lit (.bool true), .lit (.bool false)], .agg [.lit (.int .i64 7), .lit (.bool true), .lit (.bool false), .lit (.bool false), .lit (.bool false), .lit (.bool false), .lit (.bool false), .lit (.bool false), .lit (.bool false), .lit (.bool true)], .agg [.lit (.int .i64 8), .lit (.bool false), .lit (.bool false), .lit (.bool false), .lit (.bool false), .lit (.bool false), .lit (.bool false), .lit (.bool false), .lit (.bool false), .lit (.bool false)], .agg [.lit (.int .i64 9), .lit (.bool false), .lit (.bool false), .lit (.bool false), .lit (.bool false), .lit (.bool false), .lit (.bool false), .lit (.bool false), .lit (.bool false), .lit (.bool false)]]
def laid_capstan_decl_typeWords {H : Type} : DataW H := .agg [.agg [.lit (.string [66, 79, 79, 76]), .lit (.int .i64 1)], .agg [.lit (.string [73, 78, 84]), .lit (.int .i64 2)], .agg [.lit (.string [68, 73, 78, 84]), .lit (.int .i64 3)], .agg [.lit (.string [84, 73, 77, 69]), .lit (.int .i64 4)], .agg [.lit (.string [84, 79, 78]), .lit (.int .i64 101)], .agg [.lit (.string [84, 79, 70]), .lit (.int .i64 102)], .agg [.lit (.string [84, 80]), .lit (.int .i64 103)], .agg [.lit (.string [67, 84, 85]), .lit (.int .i64 104)], .agg [.lit (.string [67, 84, 68]), .lit (.int .i64 105)], .agg [.lit (.string [82, 95, 84, 82, 73, 71]), .lit (.int .i64 106)], .agg [.lit (.string [70, 95, 84, 82, 73, 71]), .lit (.int .i64 107)], .agg [.lit (.string [83, 82]), .lit (.int .i64 108)], .agg [.lit (.string [82, 83]), .lit (.int .i64 109)], .agg [.lit (.string [81, 85, 65, 68]), .lit (.int .i64 110)]]
def laid_capstan_decl_sectionWords {H : Type} : DataW H := .agg [.agg [.lit (.string [86, 65, 82]), .lit (.int .i64 0)], .agg [.lit (.string [86, 65, 82, 95, 73, 78, 80, 85, 84]), .lit (.int .i64 1)], .agg [.lit (.string [86, 65, 82, 95, 79, 85, 84, 80, 85, 84]), .lit (.int .i64 2)]]

/-- 'capstanlaw10.FoldResolves': WHATEVER THE INPUT: true; the input reads as it did. -/
def foldResolvesSpec : ChangeSpec := { name := "foldResolves", fn := fun _ => fun
  | [d1, d2, d3] => { results := [.lit (.bool true)], args := [d1, d2, d3] }
  | _ => none }
def foldResolvesRow : OpenClaim := { program := "ytldjiieckddhkaagreatdoor", sum := "f141e54fc3d4b4b7c53df3bb7c0a07075c57328fc25d0dbb2beeb4455a18cf5e", func := "capstan/capstanlaw10.FoldResolves", spec := "foldResolves", unfollowed := true, recurses := true, named := ["capstan/expr.keywords", "capstan/decl.typeWords", "capstan/decl.sectionWords", "capstan/num.spans", "capstan/stmt.namings", "capstan/expr.operations", "capstan/expr.conversions"], apart := false, laid := [("capstan/num.spans", laid_capstan_num_spans), ("capstan/expr.keywords", laid_capstan_expr_keywords), ("capstan/expr.operations", laid_capstan_expr_operations), ("capstan/expr.conversions", laid_capstan_expr_conversions), ("capstan/stmt.namings", laid_capstan_stmt_namings), ("capstan/decl.typeWords", laid_capstan_decl_typeWords), ("capstan/decl.sectionWords", laid_capstan_decl_sectionWords)] }
def FoldResolvesSaid : Prop := foldResolvesRow.holds Tryz.pinned (OpenSpec.ofChange foldResolvesSpec)

/-- ITS FALSE NEIGHBOUR: 'it returns false'. Refute it at one input. -/
def foldResolvesWrong : ChangeSpec := { name := "foldResolves", fn := fun _ => fun
  | [d1, d2, d3] => { results := [.lit (.bool false)], args := [d1, d2, d3] }
  | _ => none }
def FoldResolvesWrongFalsely : Prop := foldResolvesRow.holds Tryz.pinned (OpenSpec.ofChange foldResolvesWrong)

/-- 'capstanlaw10.FoldValues': WHATEVER THE INPUT: true; the input reads as it did. -/
def foldValuesSpec : ChangeSpec := { name := "foldValues", fn := fun _ => fun
  | [d1, d2] => { results := [.lit (.bool true)], args := [d1, d2] }
  | _ => none }
def foldValuesRow : OpenClaim := { program := "ytldjiieckddhkaagreatdoor", sum := "f141e54fc3d4b4b7c53df3bb7c0a07075c57328fc25d0dbb2beeb4455a18cf5e", func := "capstan/capstanlaw10.FoldValues", spec := "foldValues", unfollowed := true, recurses := true, named := ["capstan/num.spans", "capstan/expr.keywords", "capstan/expr.operations", "capstan/expr.conversions", "capstan/decl.typeWords", "capstan/decl.sectionWords", "capstan/stmt.namings"], apart := false, laid := [("capstan/num.spans", laid_capstan_num_spans), ("capstan/expr.keywords", laid_capstan_expr_keywords), ("capstan/expr.operations", laid_capstan_expr_operations), ("capstan/expr.conversions", laid_capstan_expr_conversions), ("capstan/stmt.namings", laid_capstan_stmt_namings), ("capstan/decl.typeWords", laid_capstan_decl_typeWords), ("capstan/decl.sectionWords", laid_capstan_decl_sectionWords)] }
def FoldValuesSaid : Prop := foldValuesRow.holds Tryz.pinned (OpenSpec.ofChange foldValuesSpec)

/-- ITS FALSE NEIGHBOUR: 'it returns false'. Refute it at one input. -/
def foldValuesWrong : ChangeSpec := { name := "foldValues", fn := fun _ => fun
  | [d1, d2] => { results := [.lit (.bool false)], args := [d1, d2] }
  | _ => none }
def FoldValuesWrongFalsely : Prop := foldValuesRow.holds Tryz.pinned (OpenSpec.ofChange foldValuesWrong)

/-- 'capstanlaw10.FoldStays': WHATEVER THE INPUT: true; the input reads as it did. -/
def foldStaysSpec : ChangeSpec := { name := "foldStays", fn := fun _ => fun
  | [d1, d2, d3] => { results := [.lit (.bool true)], args := [d1, d2, d3] }
  | _ => none }
def foldStaysRow : OpenClaim := { program := "ytldjiieckddhkaagreatdoor", sum := "f141e54fc3d4b4b7c53df3bb7c0a07075c57328fc25d0dbb2beeb4455a18cf5e", func := "capstan/capstanlaw10.FoldStays", spec := "foldStays", unfollowed := true, recurses := true, named := ["capstan/expr.keywords", "capstan/decl.typeWords", "capstan/decl.sectionWords", "capstan/num.spans", "capstan/stmt.namings", "capstan/expr.operations", "capstan/expr.conversions"], apart := false, laid := [("capstan/num.spans", laid_capstan_num_spans), ("capstan/expr.keywords", laid_capstan_expr_keywords), ("capstan/expr.operations", laid_capstan_expr_operations), ("capstan/expr.conversions", laid_capstan_expr_conversions), ("capstan/stmt.namings", laid_capstan_stmt_namings), ("capstan/decl.typeWords", laid_capstan_decl_typeWords), ("capstan/decl.sectionWords", laid_capstan_decl_sectionWords)] }
def FoldStaysSaid : Prop := foldStaysRow.holds Tryz.pinned (OpenSpec.ofChange foldStaysSpec)

/-- ITS FALSE NEIGHBOUR: 'it returns false'. Refute it at one input. -/
def foldStaysWrong : ChangeSpec := { name := "foldStays", fn := fun _ => fun
  | [d1, d2, d3] => { results := [.lit (.bool false)], args := [d1, d2, d3] }
  | _ => none }
def FoldStaysWrongFalsely : Prop := foldStaysRow.holds Tryz.pinned (OpenSpec.ofChange foldStaysWrong)

/-- 'capstanlaw10.FoldOne': WHATEVER THE INPUT: true; the input reads as it did. -/
def foldOneSpec : ChangeSpec := { name := "foldOne", fn := fun _ => fun
  | [d1, d2, d3] => { results := [.lit (.bool true)], args := [d1, d2, d3] }
  | _ => none }
def foldOneRow : OpenClaim := { program := "ytldjiieckddhkaagreatdoor", sum := "f141e54fc3d4b4b7c53df3bb7c0a07075c57328fc25d0dbb2beeb4455a18cf5e", func := "capstan/capstanlaw10.FoldOne", spec := "foldOne", unfollowed := true, recurses := true, named := ["capstan/expr.keywords", "capstan/decl.typeWords", "capstan/decl.sectionWords", "capstan/num.spans", "capstan/stmt.namings", "capstan/expr.operations", "capstan/expr.conversions"], apart := false, laid := [("capstan/num.spans", laid_capstan_num_spans), ("capstan/expr.keywords", laid_capstan_expr_keywords), ("capstan/expr.operations", laid_capstan_expr_operations), ("capstan/expr.conversions", laid_capstan_expr_conversions), ("capstan/stmt.namings", laid_capstan_stmt_namings), ("capstan/decl.typeWords", laid_capstan_decl_typeWords), ("capstan/decl.sectionWords", laid_capstan_decl_sectionWords)] }
def FoldOneSaid : Prop := foldOneRow.holds Tryz.pinned (OpenSpec.ofChange foldOneSpec)

/-- ITS FALSE NEIGHBOUR: 'it returns false'. Refute it at one input. -/
def foldOneWrong : ChangeSpec := { name := "foldOne", fn := fun _ => fun
  | [d1, d2, d3] => { results := [.lit (.bool false)], args := [d1, d2, d3] }
  | _ => none }
def FoldOneWrongFalsely : Prop := foldOneRow.holds Tryz.pinned (OpenSpec.ofChange foldOneWrong)

/-- 'capstanlaw10.FoldNames': WHATEVER THE INPUT: true; the input reads as it did. -/
def foldNamesSpec : ChangeSpec := { name := "foldNames", fn := fun _ => fun
  | [d1, d2, d3] => { results := [.lit (.bool true)], args := [d1, d2, d3] }
  | _ => none }
def foldNamesRow : OpenClaim := { program := "ytldjiieckddhkaagreatdoor", sum := "f141e54fc3d4b4b7c53df3bb7c0a07075c57328fc25d0dbb2beeb4455a18cf5e", func := "capstan/capstanlaw10.FoldNames", spec := "foldNames", unfollowed := true, recurses := true, named := ["capstan/expr.keywords", "capstan/decl.typeWords", "capstan/decl.sectionWords", "capstan/num.spans", "capstan/stmt.namings", "capstan/expr.operations", "capstan/expr.conversions"], apart := false, laid := [("capstan/num.spans", laid_capstan_num_spans), ("capstan/expr.keywords", laid_capstan_expr_keywords), ("capstan/expr.operations", laid_capstan_expr_operations), ("capstan/expr.conversions", laid_capstan_expr_conversions), ("capstan/stmt.namings", laid_capstan_stmt_namings), ("capstan/decl.typeWords", laid_capstan_decl_typeWords), ("capstan/decl.sectionWords", laid_capstan_decl_sectionWords)] }
def FoldNamesSaid : Prop := foldNamesRow.holds Tryz.pinned (OpenSpec.ofChange foldNamesSpec)

/-- ITS FALSE NEIGHBOUR: 'it returns false'. Refute it at one input. -/
def foldNamesWrong : ChangeSpec := { name := "foldNames", fn := fun _ => fun
  | [d1, d2, d3] => { results := [.lit (.bool false)], args := [d1, d2, d3] }
  | _ => none }
def FoldNamesWrongFalsely : Prop := foldNamesRow.holds Tryz.pinned (OpenSpec.ofChange foldNamesWrong)

/- THE SECOND FORM. 'bulk': how many values and letters a reading holds, each counted each time it is reached (what is shared counts as often as it is met; a slice's spare places count too). A statement '..UptoSaid' is the law's where the arguments, and the package variables that the reading takes, are together of bulk at most 1048576: NARROWER than '..Said'. Prove '..Said' where nothing that the law and all that it calls make is longer than what came in: it says more and counts as full. Else prove '..UptoSaid'. A law counts once. -/
mutual
def uptoBulk {H : Type} : DataW H → Nat
  | .lit (.string bytes) => bytes.length + 1
  | .lit _ => 1
  | .nil => 1
  | .ptr d => uptoBulk d + 1
  | .slice elems spare => uptoBulkAll elems + uptoBulkAll spare + 1
  | .agg parts => uptoBulkAll parts + 1
  | .iface _ d => uptoBulk d + 1
  | .map entries => uptoBulkEntries entries + 1
  | .held _ => 1
def uptoBulkAll {H : Type} : List (DataW H) → Nat
  | [] => 0
  | d :: r => uptoBulk d + uptoBulkAll r
def uptoBulkEntries {H : Type} : List (Lit × DataW H) → Nat
  | [] => 0
  | x :: r => uptoBulkEntry x + uptoBulkEntries r
def uptoBulkEntry {H : Type} : Lit × DataW H → Nat
  | (.string bytes, d) => bytes.length + uptoBulk d + 1
  | (_, d) => uptoBulk d + 1
 end
def uptoSmall : (H : Type) → List (DataW H) → Bool := fun _ ds => decide (uptoBulkAll ds ≤ 1048576)
def OpenSpec.upto (s : _root_.Go.ChangeSpec) : _root_.Go.OpenSpec := { _root_.Go.OpenSpec.ofChange s with cond := some uptoSmall }

/-- 'capstanlaw10.FoldResolves', WHERE WHAT IT READS IS OF BULK AT MOST 1048576: true; the input reads as it did. -/
def foldResolvesUptoRow : OpenClaim := { program := "ytldjiieckddhkaagreatdoor", sum := "f141e54fc3d4b4b7c53df3bb7c0a07075c57328fc25d0dbb2beeb4455a18cf5e", func := "capstan/capstanlaw10.FoldResolves", spec := "foldResolves", unfollowed := true, recurses := true, named := ["capstan/expr.keywords", "capstan/decl.typeWords", "capstan/decl.sectionWords", "capstan/num.spans", "capstan/stmt.namings", "capstan/expr.operations", "capstan/expr.conversions"], apart := false, laid := [("capstan/num.spans", laid_capstan_num_spans), ("capstan/expr.keywords", laid_capstan_expr_keywords), ("capstan/expr.operations", laid_capstan_expr_operations), ("capstan/expr.conversions", laid_capstan_expr_conversions), ("capstan/stmt.namings", laid_capstan_stmt_namings), ("capstan/decl.typeWords", laid_capstan_decl_typeWords), ("capstan/decl.sectionWords", laid_capstan_decl_sectionWords)], narrowed := true }
def FoldResolvesUptoSaid : Prop := foldResolvesUptoRow.holds Tryz.pinned (OpenSpec.upto foldResolvesSpec)

/-- 'capstanlaw10.FoldValues', WHERE WHAT IT READS IS OF BULK AT MOST 1048576: true; the input reads as it did. -/
def foldValuesUptoRow : OpenClaim := { program := "ytldjiieckddhkaagreatdoor", sum := "f141e54fc3d4b4b7c53df3bb7c0a07075c57328fc25d0dbb2beeb4455a18cf5e", func := "capstan/capstanlaw10.FoldValues", spec := "foldValues", unfollowed := true, recurses := true, named := ["capstan/num.spans", "capstan/expr.keywords", "capstan/expr.operations", "capstan/expr.conversions", "capstan/decl.typeWords", "capstan/decl.sectionWords", "capstan/stmt.namings"], apart := false, laid := [("capstan/num.spans", laid_capstan_num_spans), ("capstan/expr.keywords", laid_capstan_expr_keywords), ("capstan/expr.operations", laid_capstan_expr_operations), ("capstan/expr.conversions", laid_capstan_expr_conversions), ("capstan/stmt.namings", laid_capstan_stmt_namings), ("capstan/decl.typeWords", laid_capstan_decl_typeWords), ("capstan/decl.sectionWords", laid_capstan_decl_sectionWords)], narrowed := true }
def FoldValuesUptoSaid : Prop := foldValuesUptoRow.holds Tryz.pinned (OpenSpec.upto foldValuesSpec)

/-- 'capstanlaw10.FoldStays', WHERE WHAT IT READS IS OF BULK AT MOST 1048576: true; the input reads as it did. -/
def foldStaysUptoRow : OpenClaim := { program := "ytldjiieckddhkaagreatdoor", sum := "f141e54fc3d4b4b7c53df3bb7c0a07075c57328fc25d0dbb2beeb4455a18cf5e", func := "capstan/capstanlaw10.FoldStays", spec := "foldStays", unfollowed := true, recurses := true, named := ["capstan/expr.keywords", "capstan/decl.typeWords", "capstan/decl.sectionWords", "capstan/num.spans", "capstan/stmt.namings", "capstan/expr.operations", "capstan/expr.conversions"], apart := false, laid := [("capstan/num.spans", laid_capstan_num_spans), ("capstan/expr.keywords", laid_capstan_expr_keywords), ("capstan/expr.operations", laid_capstan_expr_operations), ("capstan/expr.conversions", laid_capstan_expr_conversions), ("capstan/stmt.namings", laid_capstan_stmt_namings), ("capstan/decl.typeWords", laid_capstan_decl_typeWords), ("capstan/decl.sectionWords", laid_capstan_decl_sectionWords)], narrowed := true }
def FoldStaysUptoSaid : Prop := foldStaysUptoRow.holds Tryz.pinned (OpenSpec.upto foldStaysSpec)

/-- 'capstanlaw10.FoldOne', WHERE WHAT IT READS IS OF BULK AT MOST 1048576: true; the input reads as it did. -/
def foldOneUptoRow : OpenClaim := { program := "ytldjiieckddhkaagreatdoor", sum := "f141e54fc3d4b4b7c53df3bb7c0a07075c57328fc25d0dbb2beeb4455a18cf5e", func := "capstan/capstanlaw10.FoldOne", spec := "foldOne", unfollowed := true, recurses := true, named := ["capstan/expr.keywords", "capstan/decl.typeWords", "capstan/decl.sectionWords", "capstan/num.spans", "capstan/stmt.namings", "capstan/expr.operations", "capstan/expr.conversions"], apart := false, laid := [("capstan/num.spans", laid_capstan_num_spans), ("capstan/expr.keywords", laid_capstan_expr_keywords), ("capstan/expr.operations", laid_capstan_expr_operations), ("capstan/expr.conversions", laid_capstan_expr_conversions), ("capstan/stmt.namings", laid_capstan_stmt_namings), ("capstan/decl.typeWords", laid_capstan_decl_typeWords), ("capstan/decl.sectionWords", laid_capstan_decl_sectionWords)], narrowed := true }
def FoldOneUptoSaid : Prop := foldOneUptoRow.holds Tryz.pinned (OpenSpec.upto foldOneSpec)

/-- 'capstanlaw10.FoldNames', WHERE WHAT IT READS IS OF BULK AT MOST 1048576: true; the input reads as it did. -/
def foldNamesUptoRow : OpenClaim := { program := "ytldjiieckddhkaagreatdoor", sum := "f141e54fc3d4b4b7c53df3bb7c0a07075c57328fc25d0dbb2beeb4455a18cf5e", func := "capstan/capstanlaw10.FoldNames", spec := "foldNames", unfollowed := true, recurses := true, named := ["capstan/expr.keywords", "capstan/decl.typeWords", "capstan/decl.sectionWords", "capstan/num.spans", "capstan/stmt.namings", "capstan/expr.operations", "capstan/expr.conversions"], apart := false, laid := [("capstan/num.spans", laid_capstan_num_spans), ("capstan/expr.keywords", laid_capstan_expr_keywords), ("capstan/expr.operations", laid_capstan_expr_operations), ("capstan/expr.conversions", laid_capstan_expr_conversions), ("capstan/stmt.namings", laid_capstan_stmt_namings), ("capstan/decl.typeWords", laid_capstan_decl_typeWords), ("capstan/decl.sectionWords", laid_capstan_decl_sectionWords)], narrowed := true }
def FoldNamesUptoSaid : Prop := foldNamesUptoRow.holds Tryz.pinned (OpenSpec.upto foldNamesSpec)

end Rows
end Go.Proofs.YtldjiieckddhkaaGreatDoor
