/-
  NARROWER THAN 'FOR EVERY INPUT', by the rows' own cells (each row's printed sentence says how): VerifyChecks: laid · VerifyDead: laid · VerifyPushes: laid.
  DERIVED. THE GIVEN ROWS OF THIS SEAT. 3 by the template 'for every input the law returns true; each argument reads behind the call as it read before'; 0 by the template 'total and deterministic' (their statements: YtlckedionmgjjaaDoorTotals.lean).
  GIVEN WITH THE SEED: the statements are not yours to turn. If you find one false, say at which input.
  Laid BY PROGRAM, IN A SANDBOX (cutbox-rows.mjs): the forced cells as the released guide's own fill.sh prints them over the translation c7064cbf68e08cd1… (all of the seat's roots in one cut). By AI agents, Wed Nov 11 2026. No macro, syntax, notation, axiom, sorry.
-/
import Derived.Test.YtlckedionmgjjaaDoorChecked
import GoSem.Claim
import GoSem.ClaimJoined
import GoSem.ClaimMapViews
import Derived.JoinedTies
import Derived.KernelRfl
namespace Go.Proofs.YtlckedionmgjjaaDoor
/- THE CELL 'sum', in the pinned program and in every row, IS THE sha256 OF THE DUMP (.gsa) THAT YtlckedionmgjjaaDoorProg.lean LOADS. Nothing in Lean hashes anything: it is a label: what it is worth is what the hold of that sum in a sandbox is worth. -/
noncomputable def Tryd.pinned : Pinned := { name := "ytlckedionmgjjaadoor", sum := "c7064cbf68e08cd170e192005457ec61026ec15cb6aa9ae726e11a2323de3bf6", checked := Tryd.checked }
namespace Rows
def none {H : Type} : Left H := { results := [], args := [] }

/- WHAT THE LISTED PACKAGE-LEVEL VARIABLES READ AS WHEN THE CALL BEGINS. Each datum BY PROGRAM (the guide's laid-datum.mjs) off the statement by which the dump's own 'gosem.cut.vars' lays the variable. In a bare row this is a premise. The card (YtlckedionmgjjaaDoorCards.lean) ties it to the program's text. -/
def laid_math_bits_deBruijn64tab {H : Type} : DataW H := .agg [.lit (.int .u8 0), .lit (.int .u8 1), .lit (.int .u8 56), .lit (.int .u8 2), .lit (.int .u8 57), .lit (.int .u8 49), .lit (.int .u8 28), .lit (.int .u8 3), .lit (.int .u8 61), .lit (.int .u8 58), .lit (.int .u8 42), .lit (.int .u8 50), .lit (.int .u8 38), .lit (.int .u8 29), .lit (.int .u8 17), .lit (.int .u8 4), .lit (.int .u8 62), .lit (.int .u8 47), .lit (.int .u8 59), .lit (.int .u8 36), .lit (.int .u8 45), .lit (.int .u8 43), .lit (.int .u8 51), .lit (.int .u8 22), .lit (.int .u8 53), .lit (.int .u8 39), .lit (.int .u8 33), .lit (.int .u8 30), .lit (.int .u8 24), .lit (.int .u8 18), .lit (.int .u8 12), .lit (.int .u8 5), .lit (.int .u8 63), .lit (.int .u8 55), .lit (.int .u8 48), .lit (.int .u8 27), .lit (.int .u8 60), .lit (.int .u8 41), .lit (.int .u8 37), .lit (.int .u8 16), .lit (.int .u8 46), .lit (.int .u8 35), .lit (.int .u8 44), .lit (.int .u8 21), .lit (.int .u8 52), .lit (.int .u8 32), .lit (.int .u8 23), .lit (.int .u8 11), .lit (.int .u8 54), .lit (.int .u8 26), .lit (.int .u8 40), .lit (.int .u8 15), .lit (.int .u8 34), .lit (.int .u8 20), .lit (.int .u8 31), .lit (.int .u8 10), .lit (.int .u8 25), .lit (.int .u8 14), .lit (.int .u8 19), .lit (.int .u8 9), .lit (.int .u8 13), .lit (.int .u8 8), .lit (.int .u8 7), .lit (.int .u8 6)]
def laid_capstan_num_spans {H : Type} : DataW H := .agg [.agg [.lit (.int .i64 0), .lit (.int .i64 0)], .agg [.lit (.int .i64 0), .lit (.int .i64 1)], .agg [.lit (.int .i64 (-32768)), .lit (.int .i64 32767)], .agg [.lit (.int .i64 (-2147483648)), .lit (.int .i64 2147483647)], .agg [.lit (.int .i64 (-2147483648)), .lit (.int .i64 2147483647)]]
def laid_capstan_expr_keywords {H : Type} : DataW H := .agg [.lit (.string [80, 82, 79, 71, 82, 65, 77]), .lit (.string [69, 78, 68, 95, 80, 82, 79, 71, 82, 65, 77]), .lit (.string [86, 65, 82]), .lit (.string [86, 65, 82, 95, 73, 78, 80, 85, 84]), .lit (.string [86, 65, 82, 95, 79, 85, 84, 80, 85, 84]), .lit (.string [69, 78, 68, 95, 86, 65, 82]), .lit (.string [65, 82, 82, 65, 89]), .lit (.string [79, 70]), .lit (.string [66, 79, 79, 76]), .lit (.string [73, 78, 84]), .lit (.string [68, 73, 78, 84]), .lit (.string [84, 73, 77, 69]), .lit (.string [84, 79, 78]), .lit (.string [84, 79, 70]), .lit (.string [84, 80]), .lit (.string [67, 84, 85]), .lit (.string [67, 84, 68]), .lit (.string [82, 95, 84, 82, 73, 71]), .lit (.string [70, 95, 84, 82, 73, 71]), .lit (.string [83, 82]), .lit (.string [82, 83]), .lit (.string [81, 85, 65, 68]), .lit (.string [73, 70]), .lit (.string [84, 72, 69, 78]), .lit (.string [69, 76, 83, 73, 70]), .lit (.string [69, 76, 83, 69]), .lit (.string [69, 78, 68, 95, 73, 70]), .lit (.string [67, 65, 83, 69]), .lit (.string [69, 78, 68, 95, 67, 65, 83, 69]), .lit (.string [87, 72, 73, 76, 69]), .lit (.string [68, 79]), .lit (.string [69, 78, 68, 95, 87, 72, 73, 76, 69]), .lit (.string [70, 79, 82]), .lit (.string [84, 79]), .lit (.string [66, 89]), .lit (.string [69, 78, 68, 95, 70, 79, 82]), .lit (.string [82, 69, 80, 69, 65, 84]), .lit (.string [85, 78, 84, 73, 76]), .lit (.string [69, 78, 68, 95, 82, 69, 80, 69, 65, 84]), .lit (.string [69, 88, 73, 84]), .lit (.string [82, 69, 84, 85, 82, 78]), .lit (.string [65, 78, 68]), .lit (.string [79, 82]), .lit (.string [88, 79, 82]), .lit (.string [78, 79, 84]), .lit (.string [77, 79, 68]), .lit (.string [84, 82, 85, 69]), .lit (.string [70, 65, 76, 83, 69]), .lit (.string [84, 79, 95, 73, 78, 84]), .lit (.string [84, 79, 95, 68, 73, 78, 84]), .lit (.string [84, 79, 95, 84, 73, 77, 69])]

/-- 'capstanlaw15.VerifyChecks': WHATEVER THE INPUT: true; the input reads as it did. -/
def verifyChecksSpec : ChangeSpec := { name := "verifyChecks", fn := fun _ => fun
  | [d] => { results := [.lit (.bool true)], args := [d] }
  | _ => none }
def verifyChecksRow : OpenClaim := { program := "ytlckedionmgjjaadoor", sum := "c7064cbf68e08cd170e192005457ec61026ec15cb6aa9ae726e11a2323de3bf6", func := "capstan/capstanlaw15.VerifyChecks", spec := "verifyChecks", unfollowed := true, recurses := true, named := ["capstan/expr.keywords", "capstan/num.spans", "math/bits.deBruijn64tab"], apart := false, laid := [("math/bits.deBruijn64tab", laid_math_bits_deBruijn64tab), ("capstan/num.spans", laid_capstan_num_spans), ("capstan/expr.keywords", laid_capstan_expr_keywords)] }
def VerifyChecksSaid : Prop := verifyChecksRow.holds Tryd.pinned (OpenSpec.ofChange verifyChecksSpec)

/-- ITS FALSE NEIGHBOUR: 'it returns false'. Refute it at one input. -/
def verifyChecksWrong : ChangeSpec := { name := "verifyChecks", fn := fun _ => fun
  | [d] => { results := [.lit (.bool false)], args := [d] }
  | _ => none }
def VerifyChecksWrongFalsely : Prop := verifyChecksRow.holds Tryd.pinned (OpenSpec.ofChange verifyChecksWrong)

/-- 'capstanlaw15.VerifyDead': WHATEVER THE INPUT: true; the input reads as it did. -/
def verifyDeadSpec : ChangeSpec := { name := "verifyDead", fn := fun _ => fun
  | [d1, d2] => { results := [.lit (.bool true)], args := [d1, d2] }
  | _ => none }
def verifyDeadRow : OpenClaim := { program := "ytlckedionmgjjaadoor", sum := "c7064cbf68e08cd170e192005457ec61026ec15cb6aa9ae726e11a2323de3bf6", func := "capstan/capstanlaw15.VerifyDead", spec := "verifyDead", unfollowed := true, recurses := true, named := ["capstan/expr.keywords", "capstan/num.spans", "math/bits.deBruijn64tab"], apart := false, laid := [("math/bits.deBruijn64tab", laid_math_bits_deBruijn64tab), ("capstan/num.spans", laid_capstan_num_spans), ("capstan/expr.keywords", laid_capstan_expr_keywords)] }
def VerifyDeadSaid : Prop := verifyDeadRow.holds Tryd.pinned (OpenSpec.ofChange verifyDeadSpec)

/-- ITS FALSE NEIGHBOUR: 'it returns false'. Refute it at one input. -/
def verifyDeadWrong : ChangeSpec := { name := "verifyDead", fn := fun _ => fun
  | [d1, d2] => { results := [.lit (.bool false)], args := [d1, d2] }
  | _ => none }
def VerifyDeadWrongFalsely : Prop := verifyDeadRow.holds Tryd.pinned (OpenSpec.ofChange verifyDeadWrong)

/-- 'capstanlaw15.VerifyPushes': WHATEVER THE INPUT: true; the input reads as it did. -/
def verifyPushesSpec : ChangeSpec := { name := "verifyPushes", fn := fun _ => fun
  | [d] => { results := [.lit (.bool true)], args := [d] }
  | _ => none }
def verifyPushesRow : OpenClaim := { program := "ytlckedionmgjjaadoor", sum := "c7064cbf68e08cd170e192005457ec61026ec15cb6aa9ae726e11a2323de3bf6", func := "capstan/capstanlaw15.VerifyPushes", spec := "verifyPushes", unfollowed := true, recurses := true, named := ["capstan/expr.keywords", "capstan/num.spans", "math/bits.deBruijn64tab"], apart := false, laid := [("math/bits.deBruijn64tab", laid_math_bits_deBruijn64tab), ("capstan/num.spans", laid_capstan_num_spans), ("capstan/expr.keywords", laid_capstan_expr_keywords)] }
def VerifyPushesSaid : Prop := verifyPushesRow.holds Tryd.pinned (OpenSpec.ofChange verifyPushesSpec)

/-- ITS FALSE NEIGHBOUR: 'it returns false'. Refute it at one input. -/
def verifyPushesWrong : ChangeSpec := { name := "verifyPushes", fn := fun _ => fun
  | [d] => { results := [.lit (.bool false)], args := [d] }
  | _ => none }
def VerifyPushesWrongFalsely : Prop := verifyPushesRow.holds Tryd.pinned (OpenSpec.ofChange verifyPushesWrong)

/- THE SECOND FORM. 'bulk': how many values and letters a reading holds, each counted each time it is reached (what is shared counts as often as it is met; a slice's spare places count too). A statement '..UptoSaid' is the law's where the arguments, and the package variables that the reading takes, are together of bulk at most 1048576: NARROWER than '..Said'. Prove '..Said' where nothing that the law and all that it calls make is longer than what came in: it says more and counts as full. Else prove '..UptoSaid'. A law counts once. -/
mutual
def uptoBulk {H : Type} : DataW H → Nat
  | .lit (.string bytes) => bytes.length + 1
  | .lit _ => 1
  | .nil => 1
  | .ptr d => uptoBulk d + 1
  | .slice elems spare => uptoBulkAll elems + uptoBulkAll spare + 1
  | .agg parts => uptoBulkAll parts + 1
  | .iface _ d => uptoBulk d + 1
  | .map entries => uptoBulkEntries entries + 1
  | .held _ => 1
def uptoBulkAll {H : Type} : List (DataW H) → Nat
  | [] => 0
  | d :: r => uptoBulk d + uptoBulkAll r
def uptoBulkEntries {H : Type} : List (Lit × DataW H) → Nat
  | [] => 0
  | x :: r => uptoBulkEntry x + uptoBulkEntries r
def uptoBulkEntry {H : Type} : Lit × DataW H → Nat
  | (.string bytes, d) => bytes.length + uptoBulk d + 1
  | (_, d) => uptoBulk d + 1
 end
def uptoSmall : (H : Type) → List (DataW H) → Bool := fun _ ds => decide (uptoBulkAll ds ≤ 1048576)
def OpenSpec.upto (s : _root_.Go.ChangeSpec) : _root_.Go.OpenSpec := { _root_.Go.OpenSpec.ofChange s with cond := some uptoSmall }

/-- 'capstanlaw15.VerifyChecks', WHERE WHAT IT READS IS OF BULK AT MOST 1048576: true; the input reads as it did. -/
def verifyChecksUptoRow : OpenClaim := { program := "ytlckedionmgjjaadoor", sum := "c7064cbf68e08cd170e192005457ec61026ec15cb6aa9ae726e11a2323de3bf6", func := "capstan/capstanlaw15.VerifyChecks", spec := "verifyChecks", unfollowed := true, recurses := true, named := ["capstan/expr.keywords", "capstan/num.spans", "math/bits.deBruijn64tab"], apart := false, laid := [("math/bits.deBruijn64tab", laid_math_bits_deBruijn64tab), ("capstan/num.spans", laid_capstan_num_spans), ("capstan/expr.keywords", laid_capstan_expr_keywords)], narrowed := true }
def VerifyChecksUptoSaid : Prop := verifyChecksUptoRow.holds Tryd.pinned (OpenSpec.upto verifyChecksSpec)

/-- 'capstanlaw15.VerifyDead', WHERE WHAT IT READS IS OF BULK AT MOST 1048576: true; the input reads as it did. -/
def verifyDeadUptoRow : OpenClaim := { program := "ytlckedionmgjjaadoor", sum := "c7064cbf68e08cd170e192005457ec61026ec15cb6aa9ae726e11a2323de3bf6", func := "capstan/capstanlaw15.VerifyDead", spec := "verifyDead", unfollowed := true, recurses := true, named := ["capstan/expr.keywords", "capstan/num.spans", "math/bits.deBruijn64tab"], apart := false, laid := [("math/bits.deBruijn64tab", laid_math_bits_deBruijn64tab), ("capstan/num.spans", laid_capstan_num_spans), ("capstan/expr.keywords", laid_capstan_expr_keywords)], narrowed := true }
def VerifyDeadUptoSaid : Prop := verifyDeadUptoRow.holds Tryd.pinned (OpenSpec.upto verifyDeadSpec)

/-- 'capstanlaw15.VerifyPushes', WHERE WHAT IT READS IS OF BULK AT MOST 1048576: true; the input reads as it did. -/
def verifyPushesUptoRow : OpenClaim := { program := "ytlckedionmgjjaadoor", sum := "c7064cbf68e08cd170e192005457ec61026ec15cb6aa9ae726e11a2323de3bf6", func := "capstan/capstanlaw15.VerifyPushes", spec := "verifyPushes", unfollowed := true, recurses := true, named := ["capstan/expr.keywords", "capstan/num.spans", "math/bits.deBruijn64tab"], apart := false, laid := [("math/bits.deBruijn64tab", laid_math_bits_deBruijn64tab), ("capstan/num.spans", laid_capstan_num_spans), ("capstan/expr.keywords", laid_capstan_expr_keywords)], narrowed := true }
def VerifyPushesUptoSaid : Prop := verifyPushesUptoRow.holds Tryd.pinned (OpenSpec.upto verifyPushesSpec)

end Rows
end Go.Proofs.YtlckedionmgjjaaDoor
