/-
  NARROWER THAN 'FOR EVERY INPUT', by the rows' own cells (each row's printed sentence says how): LexTokens: laid · LexShows: laid · LexBack: laid · LexNotes: laid · LexCase: laid · LexNumbers: laid.
  DERIVED. THE GIVEN ROWS OF THIS SEAT. 6 by the template 'for every input the law returns true; each argument reads behind the call as it read before'; 0 by the template 'total and deterministic' (their statements: YtfcnbiikjopajaaDoorTotals.lean).
  GIVEN WITH THE SEED: the statements are not yours to turn. If you find one false, say at which input.
  Laid BY PROGRAM, IN A SANDBOX (cutbox-rows.mjs): the forced cells as the released guide's own fill.sh prints them over the translation 1444a861f627c06c… (all of the seat's roots in one cut). By AI agents, Wed Nov 11 2026. No macro, syntax, notation, axiom, sorry.
-/
import Derived.Test.YtfcnbiikjopajaaDoorChecked
import GoSem.Claim
import GoSem.ClaimJoined
import GoSem.ClaimMapViews
import Derived.JoinedTies
import Derived.KernelRfl
namespace Go.Proofs.YtfcnbiikjopajaaDoor
/- THE CELL 'sum', in the pinned program and in every row, IS THE sha256 OF THE DUMP (.gsa) THAT YtfcnbiikjopajaaDoorProg.lean LOADS. Nothing in Lean hashes anything: it is a label: what it is worth is what the hold of that sum in a sandbox is worth. -/
noncomputable def Tryd.pinned : Pinned := { name := "ytfcnbiikjopajaadoor", sum := "1444a861f627c06cd2510a7b2729a251d91f0ca9766b6cb03285132851763e07", checked := Tryd.checked }
namespace Rows
def none {H : Type} : Left H := { results := [], args := [] }

/- WHAT THE LISTED PACKAGE-LEVEL VARIABLES READ AS WHEN THE CALL BEGINS. Each datum BY PROGRAM (the guide's laid-datum.mjs) off the statement by which the dump's own 'gosem.cut.vars' lays the variable. In a bare row this is a premise. The card (YtfcnbiikjopajaaDoorCards.lean) ties it to the program's text. -/
def laid_capstan_num_spans {H : Type} : DataW H := .agg [.agg [.lit (.int .i64 0), .lit (.int .i64 0)], .agg [.lit (.int .i64 0), .lit (.int .i64 1)], .agg [.lit (.int .i64 (-32768)), .lit (.int .i64 32767)], .agg [.lit (.int .i64 (-2147483648)), .lit (.int .i64 2147483647)], .agg [.lit (.int .i64 (-2147483648)), .lit (.int .i64 2147483647)]]
def laid_capstan_lex_signs {H : Type} : DataW H := .agg [.lit (.string [58, 61]), .lit (.string [60, 61]), .lit (.string [62, 61]), .lit (.string [60, 62]), .lit (.string [42, 42]), .lit (.string [46, 46]), .lit (.string [40]), .lit (.string [41]), .lit (.string [91]), .lit (.string [93]), .lit (.string [44]), .lit (.string [59]), .lit (.string [58]), .lit (.string [46]), .lit (.string [43]), .lit (.string [45]), .lit (.string [42]), .lit (.string [47]), .lit (.string [61]), .lit (.string [60]), .lit (.string [62]), .lit (.string [38])]
def laid_capstan_lex_bases {H : Type} : DataW H := .agg [.agg [.lit (.string [50, 35]), .lit (.int .i64 2)], .agg [.lit (.string [56, 35]), .lit (.int .i64 8)], .agg [.lit (.string [49, 54, 35]), .lit (.int .i64 16)]]
def laid_capstan_lex_typeNames {H : Type} : DataW H := .agg [.agg [.lit (.string [66, 79, 79, 76]), .lit (.int .i64 1)], .agg [.lit (.string [73, 78, 84]), .lit (.int .i64 2)], .agg [.lit (.string [68, 73, 78, 84]), .lit (.int .i64 3)], .agg [.lit (.string [84]), .lit (.int .i64 4)], .agg [.lit (.string [84, 73, 77, 69]), .lit (.int .i64 4)]]
def laid_capstan_lex_units {H : Type} : DataW H := .agg [.agg [.lit (.string [68]), .lit (.int .i64 86400000)], .agg [.lit (.string [72]), .lit (.int .i64 3600000)], .agg [.lit (.string [77]), .lit (.int .i64 60000)], .agg [.lit (.string [83]), .lit (.int .i64 1000)], .agg [.lit (.string [77, 83]), .lit (.int .i64 1)]]
def laid_math_bits_deBruijn32tab {H : Type} : DataW H := .agg [.lit (.int .u8 0), .lit (.int .u8 1), .lit (.int .u8 28), .lit (.int .u8 2), .lit (.int .u8 29), .lit (.int .u8 14), .lit (.int .u8 24), .lit (.int .u8 3), .lit (.int .u8 30), .lit (.int .u8 22), .lit (.int .u8 20), .lit (.int .u8 15), .lit (.int .u8 25), .lit (.int .u8 17), .lit (.int .u8 4), .lit (.int .u8 8), .lit (.int .u8 31), .lit (.int .u8 27), .lit (.int .u8 13), .lit (.int .u8 23), .lit (.int .u8 21), .lit (.int .u8 19), .lit (.int .u8 16), .lit (.int .u8 7), .lit (.int .u8 26), .lit (.int .u8 12), .lit (.int .u8 18), .lit (.int .u8 6), .lit (.int .u8 11), .lit (.int .u8 5), .lit (.int .u8 10), .lit (.int .u8 9)]
def laid_math_bits_deBruijn64tab {H : Type} : DataW H := .agg [.lit (.int .u8 0), .lit (.int .u8 1), .lit (.int .u8 56), .lit (.int .u8 2), .lit (.int .u8 57), .lit (.int .u8 49), .lit (.int .u8 28), .lit (.int .u8 3), .lit (.int .u8 61), .lit (.int .u8 58), .lit (.int .u8 42), .lit (.int .u8 50), .lit (.int .u8 38), .lit (.int .u8 29), .lit (.int .u8 17), .lit (.int .u8 4), .lit (.int .u8 62), .lit (.int .u8 47), .lit (.int .u8 59), .lit (.int .u8 36), .lit (.int .u8 45), .lit (.int .u8 43), .lit (.int .u8 51), .lit (.int .u8 22), .lit (.int .u8 53), .lit (.int .u8 39), .lit (.int .u8 33), .lit (.int .u8 30), .lit (.int .u8 24), .lit (.int .u8 18), .lit (.int .u8 12), .lit (.int .u8 5), .lit (.int .u8 63), .lit (.int .u8 55), .lit (.int .u8 48), .lit (.int .u8 27), .lit (.int .u8 60), .lit (.int .u8 41), .lit (.int .u8 37), .lit (.int .u8 16), .lit (.int .u8 46), .lit (.int .u8 35), .lit (.int .u8 44), .lit (.int .u8 21), .lit (.int .u8 52), .lit (.int .u8 32), .lit (.int .u8 23), .lit (.int .u8 11), .lit (.int .u8 54), .lit (.int .u8 26), .lit (.int .u8 40), .lit (.int .u8 15), .lit (.int .u8 34), .lit (.int .u8 20), .lit (.int .u8 31), .lit (.int .u8 10), .lit (.int .u8 25), .lit (.int .u8 14), .lit (.int .u8 19), .lit (.int .u8 9), .lit (.int .u8 13), .lit (.int .u8 8), .lit (.int .u8 7), .lit (.int .u8 6)]
def laid_internal_strconv_uint64pow10 {H : Type} : DataW H := .agg [.lit (.int .u64 1), .lit (.int .u64 10), .lit (.int .u64 100), .lit (.int .u64 1000), .lit (.int .u64 10000), .lit (.int .u64 100000), .lit (.int .u64 1000000), .lit (.int .u64 10000000), .lit (.int .u64 100000000), .lit (.int .u64 1000000000), .lit (.int .u64 10000000000), .lit (.int .u64 100000000000), .lit (.int .u64 1000000000000), .lit (.int .u64 10000000000000), .lit (.int .u64 100000000000000), .lit (.int .u64 1000000000000000), .lit (.int .u64 10000000000000000), .lit (.int .u64 100000000000000000), .lit (.int .u64 1000000000000000000), .lit (.int .u64 10000000000000000000)]

/-- 'capstanlaw05.LexTokens': WHATEVER THE INPUT: true; the input reads as it did. -/
def lexTokensSpec : ChangeSpec := { name := "lexTokens", fn := fun _ => fun
  | [d] => { results := [.lit (.bool true)], args := [d] }
  | _ => none }
def lexTokensRow : OpenClaim := { program := "ytfcnbiikjopajaadoor", sum := "1444a861f627c06cd2510a7b2729a251d91f0ca9766b6cb03285132851763e07", func := "capstan/capstanlaw05.LexTokens", spec := "lexTokens", inPlace := ["internal/bytealg.IndexByteString", "internal/bytealg.IndexString"], unfollowed := true, recurses := true, named := ["internal/bytealg.MaxLen", "capstan/lex.typeNames", "capstan/lex.units", "capstan/num.spans", "capstan/lex.bases", "capstan/lex.signs"], apart := false, laid := [("capstan/num.spans", laid_capstan_num_spans), ("capstan/lex.signs", laid_capstan_lex_signs), ("capstan/lex.bases", laid_capstan_lex_bases), ("capstan/lex.typeNames", laid_capstan_lex_typeNames), ("capstan/lex.units", laid_capstan_lex_units)] }
def LexTokensSaid : Prop := lexTokensRow.holds Tryd.pinned (OpenSpec.ofChange lexTokensSpec)

/-- ITS FALSE NEIGHBOUR: 'it returns false'. Refute it at one input. -/
def lexTokensWrong : ChangeSpec := { name := "lexTokens", fn := fun _ => fun
  | [d] => { results := [.lit (.bool false)], args := [d] }
  | _ => none }
def LexTokensWrongFalsely : Prop := lexTokensRow.holds Tryd.pinned (OpenSpec.ofChange lexTokensWrong)

/-- 'capstanlaw05.LexShows': WHATEVER THE INPUT: true; the input reads as it did. -/
def lexShowsSpec : ChangeSpec := { name := "lexShows", fn := fun _ => fun
  | [d] => { results := [.lit (.bool true)], args := [d] }
  | _ => none }
def lexShowsRow : OpenClaim := { program := "ytfcnbiikjopajaadoor", sum := "1444a861f627c06cd2510a7b2729a251d91f0ca9766b6cb03285132851763e07", func := "capstan/capstanlaw05.LexShows", spec := "lexShows", inPlace := ["internal/bytealg.IndexByteString", "internal/abi.NoEscape", "internal/bytealg.IndexString"], unfollowed := true, recurses := true, named := ["capstan/lex.typeNames", "internal/strconv.uint64pow10", "math/bits.deBruijn32tab", "math/bits.deBruijn64tab", "capstan/lex.units", "capstan/num.spans", "capstan/lex.bases", "capstan/lex.signs", "internal/bytealg.MaxLen"], apart := false, laid := [("math/bits.deBruijn32tab", laid_math_bits_deBruijn32tab), ("math/bits.deBruijn64tab", laid_math_bits_deBruijn64tab), ("internal/strconv.uint64pow10", laid_internal_strconv_uint64pow10), ("capstan/num.spans", laid_capstan_num_spans), ("capstan/lex.signs", laid_capstan_lex_signs), ("capstan/lex.bases", laid_capstan_lex_bases), ("capstan/lex.typeNames", laid_capstan_lex_typeNames), ("capstan/lex.units", laid_capstan_lex_units)] }
def LexShowsSaid : Prop := lexShowsRow.holds Tryd.pinned (OpenSpec.ofChange lexShowsSpec)

/-- ITS FALSE NEIGHBOUR: 'it returns false'. Refute it at one input. -/
def lexShowsWrong : ChangeSpec := { name := "lexShows", fn := fun _ => fun
  | [d] => { results := [.lit (.bool false)], args := [d] }
  | _ => none }
def LexShowsWrongFalsely : Prop := lexShowsRow.holds Tryd.pinned (OpenSpec.ofChange lexShowsWrong)

/-- 'capstanlaw05.LexBack': WHATEVER THE INPUT: true; the input reads as it did. -/
def lexBackSpec : ChangeSpec := { name := "lexBack", fn := fun _ => fun
  | [d1, d2] => { results := [.lit (.bool true)], args := [d1, d2] }
  | _ => none }
def lexBackRow : OpenClaim := { program := "ytfcnbiikjopajaadoor", sum := "1444a861f627c06cd2510a7b2729a251d91f0ca9766b6cb03285132851763e07", func := "capstan/capstanlaw05.LexBack", spec := "lexBack", inPlace := ["internal/bytealg.IndexByteString", "internal/bytealg.IndexString", "internal/abi.NoEscape"], unfollowed := true, recurses := true, named := ["internal/bytealg.MaxLen", "capstan/lex.typeNames", "capstan/lex.units", "capstan/num.spans", "capstan/lex.bases", "capstan/lex.signs", "internal/strconv.uint64pow10", "math/bits.deBruijn32tab", "math/bits.deBruijn64tab"], apart := false, laid := [("math/bits.deBruijn32tab", laid_math_bits_deBruijn32tab), ("math/bits.deBruijn64tab", laid_math_bits_deBruijn64tab), ("internal/strconv.uint64pow10", laid_internal_strconv_uint64pow10), ("capstan/num.spans", laid_capstan_num_spans), ("capstan/lex.signs", laid_capstan_lex_signs), ("capstan/lex.bases", laid_capstan_lex_bases), ("capstan/lex.typeNames", laid_capstan_lex_typeNames), ("capstan/lex.units", laid_capstan_lex_units)] }
def LexBackSaid : Prop := lexBackRow.holds Tryd.pinned (OpenSpec.ofChange lexBackSpec)

/-- ITS FALSE NEIGHBOUR: 'it returns false'. Refute it at one input. -/
def lexBackWrong : ChangeSpec := { name := "lexBack", fn := fun _ => fun
  | [d1, d2] => { results := [.lit (.bool false)], args := [d1, d2] }
  | _ => none }
def LexBackWrongFalsely : Prop := lexBackRow.holds Tryd.pinned (OpenSpec.ofChange lexBackWrong)

/-- 'capstanlaw05.LexNotes': WHATEVER THE INPUT: true; the input reads as it did. -/
def lexNotesSpec : ChangeSpec := { name := "lexNotes", fn := fun _ => fun
  | [d1, d2, d3] => { results := [.lit (.bool true)], args := [d1, d2, d3] }
  | _ => none }
def lexNotesRow : OpenClaim := { program := "ytfcnbiikjopajaadoor", sum := "1444a861f627c06cd2510a7b2729a251d91f0ca9766b6cb03285132851763e07", func := "capstan/capstanlaw05.LexNotes", spec := "lexNotes", inPlace := ["internal/bytealg.IndexByteString", "internal/bytealg.IndexString"], unfollowed := true, recurses := true, named := ["internal/bytealg.MaxLen", "capstan/lex.typeNames", "capstan/lex.units", "capstan/num.spans", "capstan/lex.bases", "capstan/lex.signs"], apart := false, laid := [("capstan/num.spans", laid_capstan_num_spans), ("capstan/lex.signs", laid_capstan_lex_signs), ("capstan/lex.bases", laid_capstan_lex_bases), ("capstan/lex.typeNames", laid_capstan_lex_typeNames), ("capstan/lex.units", laid_capstan_lex_units)] }
def LexNotesSaid : Prop := lexNotesRow.holds Tryd.pinned (OpenSpec.ofChange lexNotesSpec)

/-- ITS FALSE NEIGHBOUR: 'it returns false'. Refute it at one input. -/
def lexNotesWrong : ChangeSpec := { name := "lexNotes", fn := fun _ => fun
  | [d1, d2, d3] => { results := [.lit (.bool false)], args := [d1, d2, d3] }
  | _ => none }
def LexNotesWrongFalsely : Prop := lexNotesRow.holds Tryd.pinned (OpenSpec.ofChange lexNotesWrong)

/-- 'capstanlaw05.LexCase': WHATEVER THE INPUT: true; the input reads as it did. -/
def lexCaseSpec : ChangeSpec := { name := "lexCase", fn := fun _ => fun
  | [d] => { results := [.lit (.bool true)], args := [d] }
  | _ => none }
def lexCaseRow : OpenClaim := { program := "ytfcnbiikjopajaadoor", sum := "1444a861f627c06cd2510a7b2729a251d91f0ca9766b6cb03285132851763e07", func := "capstan/capstanlaw05.LexCase", spec := "lexCase", inPlace := ["internal/bytealg.IndexByteString", "internal/bytealg.IndexString"], unfollowed := true, recurses := true, named := ["internal/bytealg.MaxLen", "capstan/lex.typeNames", "capstan/lex.units", "capstan/num.spans", "capstan/lex.bases", "capstan/lex.signs"], apart := false, laid := [("capstan/num.spans", laid_capstan_num_spans), ("capstan/lex.signs", laid_capstan_lex_signs), ("capstan/lex.bases", laid_capstan_lex_bases), ("capstan/lex.typeNames", laid_capstan_lex_typeNames), ("capstan/lex.units", laid_capstan_lex_units)] }
def LexCaseSaid : Prop := lexCaseRow.holds Tryd.pinned (OpenSpec.ofChange lexCaseSpec)

/-- ITS FALSE NEIGHBOUR: 'it returns false'. Refute it at one input. -/
def lexCaseWrong : ChangeSpec := { name := "lexCase", fn := fun _ => fun
  | [d] => { results := [.lit (.bool false)], args := [d] }
  | _ => none }
def LexCaseWrongFalsely : Prop := lexCaseRow.holds Tryd.pinned (OpenSpec.ofChange lexCaseWrong)

/-- 'capstanlaw05.LexNumbers': WHATEVER THE INPUT: true; the input reads as it did. -/
def lexNumbersSpec : ChangeSpec := { name := "lexNumbers", fn := fun _ => fun
  | [d] => { results := [.lit (.bool true)], args := [d] }
  | _ => none }
def lexNumbersRow : OpenClaim := { program := "ytfcnbiikjopajaadoor", sum := "1444a861f627c06cd2510a7b2729a251d91f0ca9766b6cb03285132851763e07", func := "capstan/capstanlaw05.LexNumbers", spec := "lexNumbers", inPlace := ["internal/bytealg.IndexByteString", "internal/bytealg.IndexString"], unfollowed := true, recurses := true, named := ["internal/bytealg.MaxLen", "capstan/lex.typeNames", "capstan/lex.units", "capstan/num.spans", "capstan/lex.bases", "capstan/lex.signs"], apart := false, laid := [("capstan/num.spans", laid_capstan_num_spans), ("capstan/lex.signs", laid_capstan_lex_signs), ("capstan/lex.bases", laid_capstan_lex_bases), ("capstan/lex.typeNames", laid_capstan_lex_typeNames), ("capstan/lex.units", laid_capstan_lex_units)] }
def LexNumbersSaid : Prop := lexNumbersRow.holds Tryd.pinned (OpenSpec.ofChange lexNumbersSpec)

/-- ITS FALSE NEIGHBOUR: 'it returns false'. Refute it at one input. -/
def lexNumbersWrong : ChangeSpec := { name := "lexNumbers", fn := fun _ => fun
  | [d] => { results := [.lit (.bool false)], args := [d] }
  | _ => none }
def LexNumbersWrongFalsely : Prop := lexNumbersRow.holds Tryd.pinned (OpenSpec.ofChange lexNumbersWrong)

/- THE SECOND FORM. 'bulk': how many values and letters a reading holds, each counted each time it is reached (what is shared counts as often as it is met; a slice's spare places count too). A statement '..UptoSaid' is the law's where the arguments, and the package variables that the reading takes, are together of bulk at most 1048576: NARROWER than '..Said'. Prove '..Said' where nothing that the law and all that it calls make is longer than what came in: it says more and counts as full. Else prove '..UptoSaid'. A law counts once. -/
mutual
def uptoBulk {H : Type} : DataW H → Nat
  | .lit (.string bytes) => bytes.length + 1
  | .lit _ => 1
  | .nil => 1
  | .ptr d => uptoBulk d + 1
  | .slice elems spare => uptoBulkAll elems + uptoBulkAll spare + 1
  | .agg parts => uptoBulkAll parts + 1
  | .iface _ d => uptoBulk d + 1
  | .map entries => uptoBulkEntries entries + 1
  | .held _ => 1
def uptoBulkAll {H : Type} : List (DataW H) → Nat
  | [] => 0
  | d :: r => uptoBulk d + uptoBulkAll r
def uptoBulkEntries {H : Type} : List (Lit × DataW H) → Nat
  | [] => 0
  | x :: r => uptoBulkEntry x + uptoBulkEntries r
def uptoBulkEntry {H : Type} : Lit × DataW H → Nat
  | (.string bytes, d) => bytes.length + uptoBulk d + 1
  | (_, d) => uptoBulk d + 1
 end
def uptoSmall : (H : Type) → List (DataW H) → Bool := fun _ ds => decide (uptoBulkAll ds ≤ 1048576)
def OpenSpec.upto (s : _root_.Go.ChangeSpec) : _root_.Go.OpenSpec := { _root_.Go.OpenSpec.ofChange s with cond := some uptoSmall }

/-- 'capstanlaw05.LexTokens', WHERE WHAT IT READS IS OF BULK AT MOST 1048576: true; the input reads as it did. -/
def lexTokensUptoRow : OpenClaim := { program := "ytfcnbiikjopajaadoor", sum := "1444a861f627c06cd2510a7b2729a251d91f0ca9766b6cb03285132851763e07", func := "capstan/capstanlaw05.LexTokens", spec := "lexTokens", inPlace := ["internal/bytealg.IndexByteString", "internal/bytealg.IndexString"], unfollowed := true, recurses := true, named := ["internal/bytealg.MaxLen", "capstan/lex.typeNames", "capstan/lex.units", "capstan/num.spans", "capstan/lex.bases", "capstan/lex.signs"], apart := false, laid := [("capstan/num.spans", laid_capstan_num_spans), ("capstan/lex.signs", laid_capstan_lex_signs), ("capstan/lex.bases", laid_capstan_lex_bases), ("capstan/lex.typeNames", laid_capstan_lex_typeNames), ("capstan/lex.units", laid_capstan_lex_units)], narrowed := true }
def LexTokensUptoSaid : Prop := lexTokensUptoRow.holds Tryd.pinned (OpenSpec.upto lexTokensSpec)

/-- 'capstanlaw05.LexShows', WHERE WHAT IT READS IS OF BULK AT MOST 1048576: true; the input reads as it did. -/
def lexShowsUptoRow : OpenClaim := { program := "ytfcnbiikjopajaadoor", sum := "1444a861f627c06cd2510a7b2729a251d91f0ca9766b6cb03285132851763e07", func := "capstan/capstanlaw05.LexShows", spec := "lexShows", inPlace := ["internal/bytealg.IndexByteString", "internal/abi.NoEscape", "internal/bytealg.IndexString"], unfollowed := true, recurses := true, named := ["capstan/lex.typeNames", "internal/strconv.uint64pow10", "math/bits.deBruijn32tab", "math/bits.deBruijn64tab", "capstan/lex.units", "capstan/num.spans", "capstan/lex.bases", "capstan/lex.signs", "internal/bytealg.MaxLen"], apart := false, laid := [("math/bits.deBruijn32tab", laid_math_bits_deBruijn32tab), ("math/bits.deBruijn64tab", laid_math_bits_deBruijn64tab), ("internal/strconv.uint64pow10", laid_internal_strconv_uint64pow10), ("capstan/num.spans", laid_capstan_num_spans), ("capstan/lex.signs", laid_capstan_lex_signs), ("capstan/lex.bases", laid_capstan_lex_bases), ("capstan/lex.typeNames", laid_capstan_lex_typeNames), ("capstan/lex.units", laid_capstan_lex_units)], narrowed := true }
def LexShowsUptoSaid : Prop := lexShowsUptoRow.holds Tryd.pinned (OpenSpec.upto lexShowsSpec)

/-- 'capstanlaw05.LexBack', WHERE WHAT IT READS IS OF BULK AT MOST 1048576: true; the input reads as it did. -/
def lexBackUptoRow : OpenClaim := { program := "ytfcnbiikjopajaadoor", sum := "1444a861f627c06cd2510a7b2729a251d91f0ca9766b6cb03285132851763e07", func := "capstan/capstanlaw05.LexBack", spec := "lexBack", inPlace := ["internal/bytealg.IndexByteString", "internal/bytealg.IndexString", "internal/abi.NoEscape"], unfollowed := true, recurses := true, named := ["internal/bytealg.MaxLen", "capstan/lex.typeNames", "capstan/lex.units", "capstan/num.spans", "capstan/lex.bases", "capstan/lex.signs", "internal/strconv.uint64pow10", "math/bits.deBruijn32tab", "math/bits.deBruijn64tab"], apart := false, laid := [("math/bits.deBruijn32tab", laid_math_bits_deBruijn32tab), ("math/bits.deBruijn64tab", laid_math_bits_deBruijn64tab), ("internal/strconv.uint64pow10", laid_internal_strconv_uint64pow10), ("capstan/num.spans", laid_capstan_num_spans), ("capstan/lex.signs", laid_capstan_lex_signs), ("capstan/lex.bases", laid_capstan_lex_bases), ("capstan/lex.typeNames", laid_capstan_lex_typeNames), ("capstan/lex.units", laid_capstan_lex_units)], narrowed := true }
def LexBackUptoSaid : Prop := lexBackUptoRow.holds Tryd.pinned (OpenSpec.upto lexBackSpec)

/-- 'capstanlaw05.LexNotes', WHERE WHAT IT READS IS OF BULK AT MOST 1048576: true; the input reads as it did. -/
def lexNotesUptoRow : OpenClaim := { program := "ytfcnbiikjopajaadoor", sum := "1444a861f627c06cd2510a7b2729a251d91f0ca9766b6cb03285132851763e07", func := "capstan/capstanlaw05.LexNotes", spec := "lexNotes", inPlace := ["internal/bytealg.IndexByteString", "internal/bytealg.IndexString"], unfollowed := true, recurses := true, named := ["internal/bytealg.MaxLen", "capstan/lex.typeNames", "capstan/lex.units", "capstan/num.spans", "capstan/lex.bases", "capstan/lex.signs"], apart := false, laid := [("capstan/num.spans", laid_capstan_num_spans), ("capstan/lex.signs", laid_capstan_lex_signs), ("capstan/lex.bases", laid_capstan_lex_bases), ("capstan/lex.typeNames", laid_capstan_lex_typeNames), ("capstan/lex.units", laid_capstan_lex_units)], narrowed := true }
def LexNotesUptoSaid : Prop := lexNotesUptoRow.holds Tryd.pinned (OpenSpec.upto lexNotesSpec)

/-- 'capstanlaw05.LexCase', WHERE WHAT IT READS IS OF BULK AT MOST 1048576: true; the input reads as it did. -/
def lexCaseUptoRow : OpenClaim := { program := "ytfcnbiikjopajaadoor", sum := "1444a861f627c06cd2510a7b2729a251d91f0ca9766b6cb03285132851763e07", func := "capstan/capstanlaw05.LexCase", spec := "lexCase", inPlace := ["internal/bytealg.IndexByteString", "internal/bytealg.IndexString"], unfollowed := true, recurses := true, named := ["internal/bytealg.MaxLen", "capstan/lex.typeNames", "capstan/lex.units", "capstan/num.spans", "capstan/lex.bases", "capstan/lex.signs"], apart := false, laid := [("capstan/num.spans", laid_capstan_num_spans), ("capstan/lex.signs", laid_capstan_lex_signs), ("capstan/lex.bases", laid_capstan_lex_bases), ("capstan/lex.typeNames", laid_capstan_lex_typeNames), ("capstan/lex.units", laid_capstan_lex_units)], narrowed := true }
def LexCaseUptoSaid : Prop := lexCaseUptoRow.holds Tryd.pinned (OpenSpec.upto lexCaseSpec)

/-- 'capstanlaw05.LexNumbers', WHERE WHAT IT READS IS OF BULK AT MOST 1048576: true; the input reads as it did. -/
def lexNumbersUptoRow : OpenClaim := { program := "ytfcnbiikjopajaadoor", sum := "1444a861f627c06cd2510a7b2729a251d91f0ca9766b6cb03285132851763e07", func := "capstan/capstanlaw05.LexNumbers", spec := "lexNumbers", inPlace := ["internal/bytealg.IndexByteString", "internal/bytealg.IndexString"], unfollowed := true, recurses := true, named := ["internal/bytealg.MaxLen", "capstan/lex.typeNames", "capstan/lex.units", "capstan/num.spans", "capstan/lex.bases", "capstan/lex.signs"], apart := false, laid := [("capstan/num.spans", laid_capstan_num_spans), ("capstan/lex.signs", laid_capstan_lex_signs), ("capstan/lex.bases", laid_capstan_lex_bases), ("capstan/lex.typeNames", laid_capstan_lex_typeNames), ("capstan/lex.units", laid_capstan_lex_units)], narrowed := true }
def LexNumbersUptoSaid : Prop := lexNumbersUptoRow.holds Tryd.pinned (OpenSpec.upto lexNumbersSpec)

end Rows
end Go.Proofs.YtfcnbiikjopajaaDoor
