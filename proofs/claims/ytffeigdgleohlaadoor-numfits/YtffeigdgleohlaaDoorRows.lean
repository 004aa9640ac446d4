/-
  NARROWER THAN 'FOR EVERY INPUT', by the rows' own cells (each row's printed sentence says how): NumTwos: laid · NumOnes: laid · NumFits: laid · NumRings: laid · NumDivides: laid · NumCompares: laid.
  DERIVED. THE GIVEN ROWS OF THIS SEAT. 6 by the template 'for every input the law returns true; each argument reads behind the call as it read before'; 0 by the template 'total and deterministic' (their statements: YtffeigdgleohlaaDoorTotals.lean).
  GIVEN WITH THE SEED: the statements are not yours to turn. If you find one false, say at which input.
  Laid BY PROGRAM, IN A SANDBOX (cutbox-rows.mjs): the forced cells as the released guide's own fill.sh prints them over the translation 9fc5e97d7fe4d8dd… (all of the seat's roots in one cut). By AI agents, Wed Nov 11 2026. No macro, syntax, notation, axiom, sorry.
-/
import Derived.Test.YtffeigdgleohlaaDoorChecked
import GoSem.Claim
import GoSem.ClaimJoined
import GoSem.ClaimMapViews
import Derived.JoinedTies
import Derived.KernelRfl
namespace Go.Proofs.YtffeigdgleohlaaDoor
/- THE CELL 'sum', in the pinned program and in every row, IS THE sha256 OF THE DUMP (.gsa) THAT YtffeigdgleohlaaDoorProg.lean LOADS. Nothing in Lean hashes anything: it is a label: what it is worth is what the hold of that sum in a sandbox is worth. -/
noncomputable def Tryd.pinned : Pinned := { name := "ytffeigdgleohlaadoor", sum := "9fc5e97d7fe4d8ddb5f196de70e9df28cc53c71f43128b2a66e9dc6db27894b7", checked := Tryd.checked }
namespace Rows
def none {H : Type} : Left H := { results := [], args := [] }

/- WHAT THE LISTED PACKAGE-LEVEL VARIABLES READ AS WHEN THE CALL BEGINS. Each datum BY PROGRAM (the guide's laid-datum.mjs) off the statement by which the dump's own 'gosem.cut.vars' lays the variable. In a bare row this is a premise. The card (YtffeigdgleohlaaDoorCards.lean) ties it to the program's text. -/
def laid_capstan_num_spans {H : Type} : DataW H := .agg [.agg [.lit (.int .i64 0), .lit (.int .i64 0)], .agg [.lit (.int .i64 0), .lit (.int .i64 1)], .agg [.lit (.int .i64 (-32768)), .lit (.int .i64 32767)], .agg [.lit (.int .i64 (-2147483648)), .lit (.int .i64 2147483647)], .agg [.lit (.int .i64 (-2147483648)), .lit (.int .i64 2147483647)]]

/-- 'capstanlaw04.NumTwos': WHATEVER THE INPUT: true; the input reads as it did. -/
def numTwosSpec : ChangeSpec := { name := "numTwos", fn := fun _ => fun
  | [d1, d2, d3] => { results := [.lit (.bool true)], args := [d1, d2, d3] }
  | _ => none }
def numTwosRow : OpenClaim := { program := "ytffeigdgleohlaadoor", sum := "9fc5e97d7fe4d8ddb5f196de70e9df28cc53c71f43128b2a66e9dc6db27894b7", func := "capstan/capstanlaw04.NumTwos", spec := "numTwos", unfollowed := true, recurses := true, named := ["capstan/num.spans"], apart := false, laid := [("capstan/num.spans", laid_capstan_num_spans)] }
def NumTwosSaid : Prop := numTwosRow.holds Tryd.pinned (OpenSpec.ofChange numTwosSpec)

/-- ITS FALSE NEIGHBOUR: 'it returns false'. Refute it at one input. -/
def numTwosWrong : ChangeSpec := { name := "numTwos", fn := fun _ => fun
  | [d1, d2, d3] => { results := [.lit (.bool false)], args := [d1, d2, d3] }
  | _ => none }
def NumTwosWrongFalsely : Prop := numTwosRow.holds Tryd.pinned (OpenSpec.ofChange numTwosWrong)

/-- 'capstanlaw04.NumOnes': WHATEVER THE INPUT: true; the input reads as it did. -/
def numOnesSpec : ChangeSpec := { name := "numOnes", fn := fun _ => fun
  | [d1, d2, d3] => { results := [.lit (.bool true)], args := [d1, d2, d3] }
  | _ => none }
def numOnesRow : OpenClaim := { program := "ytffeigdgleohlaadoor", sum := "9fc5e97d7fe4d8ddb5f196de70e9df28cc53c71f43128b2a66e9dc6db27894b7", func := "capstan/capstanlaw04.NumOnes", spec := "numOnes", unfollowed := true, recurses := true, named := ["capstan/num.spans"], apart := false, laid := [("capstan/num.spans", laid_capstan_num_spans)] }
def NumOnesSaid : Prop := numOnesRow.holds Tryd.pinned (OpenSpec.ofChange numOnesSpec)

/-- ITS FALSE NEIGHBOUR: 'it returns false'. Refute it at one input. -/
def numOnesWrong : ChangeSpec := { name := "numOnes", fn := fun _ => fun
  | [d1, d2, d3] => { results := [.lit (.bool false)], args := [d1, d2, d3] }
  | _ => none }
def NumOnesWrongFalsely : Prop := numOnesRow.holds Tryd.pinned (OpenSpec.ofChange numOnesWrong)

/-- 'capstanlaw04.NumFits': WHATEVER THE INPUT: true; the input reads as it did. -/
def numFitsSpec : ChangeSpec := { name := "numFits", fn := fun _ => fun
  | [d1, d2, d3] => { results := [.lit (.bool true)], args := [d1, d2, d3] }
  | _ => none }
def numFitsRow : OpenClaim := { program := "ytffeigdgleohlaadoor", sum := "9fc5e97d7fe4d8ddb5f196de70e9df28cc53c71f43128b2a66e9dc6db27894b7", func := "capstan/capstanlaw04.NumFits", spec := "numFits", unfollowed := true, recurses := true, named := ["capstan/num.spans"], apart := false, laid := [("capstan/num.spans", laid_capstan_num_spans)] }
def NumFitsSaid : Prop := numFitsRow.holds Tryd.pinned (OpenSpec.ofChange numFitsSpec)

/-- ITS FALSE NEIGHBOUR: 'it returns false'. Refute it at one input. -/
def numFitsWrong : ChangeSpec := { name := "numFits", fn := fun _ => fun
  | [d1, d2, d3] => { results := [.lit (.bool false)], args := [d1, d2, d3] }
  | _ => none }
def NumFitsWrongFalsely : Prop := numFitsRow.holds Tryd.pinned (OpenSpec.ofChange numFitsWrong)

/-- 'capstanlaw04.NumRings': WHATEVER THE INPUT: true; the input reads as it did. -/
def numRingsSpec : ChangeSpec := { name := "numRings", fn := fun _ => fun
  | [d1, d2, d3] => { results := [.lit (.bool true)], args := [d1, d2, d3] }
  | _ => none }
def numRingsRow : OpenClaim := { program := "ytffeigdgleohlaadoor", sum := "9fc5e97d7fe4d8ddb5f196de70e9df28cc53c71f43128b2a66e9dc6db27894b7", func := "capstan/capstanlaw04.NumRings", spec := "numRings", unfollowed := true, recurses := true, named := ["capstan/num.spans"], apart := false, laid := [("capstan/num.spans", laid_capstan_num_spans)] }
def NumRingsSaid : Prop := numRingsRow.holds Tryd.pinned (OpenSpec.ofChange numRingsSpec)

/-- ITS FALSE NEIGHBOUR: 'it returns false'. Refute it at one input. -/
def numRingsWrong : ChangeSpec := { name := "numRings", fn := fun _ => fun
  | [d1, d2, d3] => { results := [.lit (.bool false)], args := [d1, d2, d3] }
  | _ => none }
def NumRingsWrongFalsely : Prop := numRingsRow.holds Tryd.pinned (OpenSpec.ofChange numRingsWrong)

/-- 'capstanlaw04.NumDivides': WHATEVER THE INPUT: true; the input reads as it did. -/
def numDividesSpec : ChangeSpec := { name := "numDivides", fn := fun _ => fun
  | [d1, d2] => { results := [.lit (.bool true)], args := [d1, d2] }
  | _ => none }
def numDividesRow : OpenClaim := { program := "ytffeigdgleohlaadoor", sum := "9fc5e97d7fe4d8ddb5f196de70e9df28cc53c71f43128b2a66e9dc6db27894b7", func := "capstan/capstanlaw04.NumDivides", spec := "numDivides", unfollowed := true, recurses := true, named := ["capstan/num.spans"], apart := false, laid := [("capstan/num.spans", laid_capstan_num_spans)] }
def NumDividesSaid : Prop := numDividesRow.holds Tryd.pinned (OpenSpec.ofChange numDividesSpec)

/-- ITS FALSE NEIGHBOUR: 'it returns false'. Refute it at one input. -/
def numDividesWrong : ChangeSpec := { name := "numDivides", fn := fun _ => fun
  | [d1, d2] => { results := [.lit (.bool false)], args := [d1, d2] }
  | _ => none }
def NumDividesWrongFalsely : Prop := numDividesRow.holds Tryd.pinned (OpenSpec.ofChange numDividesWrong)

/-- 'capstanlaw04.NumCompares': WHATEVER THE INPUT: true; the input reads as it did. -/
def numComparesSpec : ChangeSpec := { name := "numCompares", fn := fun _ => fun
  | [d1, d2] => { results := [.lit (.bool true)], args := [d1, d2] }
  | _ => none }
def numComparesRow : OpenClaim := { program := "ytffeigdgleohlaadoor", sum := "9fc5e97d7fe4d8ddb5f196de70e9df28cc53c71f43128b2a66e9dc6db27894b7", func := "capstan/capstanlaw04.NumCompares", spec := "numCompares", unfollowed := true, recurses := true, named := ["capstan/num.spans"], apart := false, laid := [("capstan/num.spans", laid_capstan_num_spans)] }
def NumComparesSaid : Prop := numComparesRow.holds Tryd.pinned (OpenSpec.ofChange numComparesSpec)

/-- ITS FALSE NEIGHBOUR: 'it returns false'. Refute it at one input. -/
def numComparesWrong : ChangeSpec := { name := "numCompares", fn := fun _ => fun
  | [d1, d2] => { results := [.lit (.bool false)], args := [d1, d2] }
  | _ => none }
def NumComparesWrongFalsely : Prop := numComparesRow.holds Tryd.pinned (OpenSpec.ofChange numComparesWrong)

/- THE SECOND FORM. 'bulk': how many values and letters a reading holds, each counted each time it is reached (what is shared counts as often as it is met; a slice's spare places count too). A statement '..UptoSaid' is the law's where the arguments, and the package variables that the reading takes, are together of bulk at most 1048576: NARROWER than '..Said'. Prove '..Said' where nothing that the law and all that it calls make is longer than what came in: it says more and counts as full. Else prove '..UptoSaid'. A law counts once. -/
mutual
def uptoBulk {H : Type} : DataW H → Nat
  | .lit (.string bytes) => bytes.length + 1
  | .lit _ => 1
  | .nil => 1
  | .ptr d => uptoBulk d + 1
  | .slice elems spare => uptoBulkAll elems + uptoBulkAll spare + 1
  | .agg parts => uptoBulkAll parts + 1
  | .iface _ d => uptoBulk d + 1
  | .map entries => uptoBulkEntries entries + 1
  | .held _ => 1
def uptoBulkAll {H : Type} : List (DataW H) → Nat
  | [] => 0
  | d :: r => uptoBulk d + uptoBulkAll r
def uptoBulkEntries {H : Type} : List (Lit × DataW H) → Nat
  | [] => 0
  | x :: r => uptoBulkEntry x + uptoBulkEntries r
def uptoBulkEntry {H : Type} : Lit × DataW H → Nat
  | (.string bytes, d) => bytes.length + uptoBulk d + 1
  | (_, d) => uptoBulk d + 1
 end
def uptoSmall : (H : Type) → List (DataW H) → Bool := fun _ ds => decide (uptoBulkAll ds ≤ 1048576)
def OpenSpec.upto (s : _root_.Go.ChangeSpec) : _root_.Go.OpenSpec := { _root_.Go.OpenSpec.ofChange s with cond := some uptoSmall }

/-- 'capstanlaw04.NumTwos', WHERE WHAT IT READS IS OF BULK AT MOST 1048576: true; the input reads as it did. -/
def numTwosUptoRow : OpenClaim := { program := "ytffeigdgleohlaadoor", sum := "9fc5e97d7fe4d8ddb5f196de70e9df28cc53c71f43128b2a66e9dc6db27894b7", func := "capstan/capstanlaw04.NumTwos", spec := "numTwos", unfollowed := true, recurses := true, named := ["capstan/num.spans"], apart := false, laid := [("capstan/num.spans", laid_capstan_num_spans)], narrowed := true }
def NumTwosUptoSaid : Prop := numTwosUptoRow.holds Tryd.pinned (OpenSpec.upto numTwosSpec)

/-- 'capstanlaw04.NumOnes', WHERE WHAT IT READS IS OF BULK AT MOST 1048576: true; the input reads as it did. -/
def numOnesUptoRow : OpenClaim := { program := "ytffeigdgleohlaadoor", sum := "9fc5e97d7fe4d8ddb5f196de70e9df28cc53c71f43128b2a66e9dc6db27894b7", func := "capstan/capstanlaw04.NumOnes", spec := "numOnes", unfollowed := true, recurses := true, named := ["capstan/num.spans"], apart := false, laid := [("capstan/num.spans", laid_capstan_num_spans)], narrowed := true }
def NumOnesUptoSaid : Prop := numOnesUptoRow.holds Tryd.pinned (OpenSpec.upto numOnesSpec)

/-- 'capstanlaw04.NumFits', WHERE WHAT IT READS IS OF BULK AT MOST 1048576: true; the input reads as it did. -/
def numFitsUptoRow : OpenClaim := { program := "ytffeigdgleohlaadoor", sum := "9fc5e97d7fe4d8ddb5f196de70e9df28cc53c71f43128b2a66e9dc6db27894b7", func := "capstan/capstanlaw04.NumFits", spec := "numFits", unfollowed := true, recurses := true, named := ["capstan/num.spans"], apart := false, laid := [("capstan/num.spans", laid_capstan_num_spans)], narrowed := true }
def NumFitsUptoSaid : Prop := numFitsUptoRow.holds Tryd.pinned (OpenSpec.upto numFitsSpec)

/-- 'capstanlaw04.NumRings', WHERE WHAT IT READS IS OF BULK AT MOST 1048576: true; the input reads as it did. -/
def numRingsUptoRow : OpenClaim := { program := "ytffeigdgleohlaadoor", sum := "9fc5e97d7fe4d8ddb5f196de70e9df28cc53c71f43128b2a66e9dc6db27894b7", func := "capstan/capstanlaw04.NumRings", spec := "numRings", unfollowed := true, recurses := true, named := ["capstan/num.spans"], apart := false, laid := [("capstan/num.spans", laid_capstan_num_spans)], narrowed := true }
def NumRingsUptoSaid : Prop := numRingsUptoRow.holds Tryd.pinned (OpenSpec.upto numRingsSpec)

/-- 'capstanlaw04.NumDivides', WHERE WHAT IT READS IS OF BULK AT MOST 1048576: true; the input reads as it did. -/
def numDividesUptoRow : OpenClaim := { program := "ytffeigdgleohlaadoor", sum := "9fc5e97d7fe4d8ddb5f196de70e9df28cc53c71f43128b2a66e9dc6db27894b7", func := "capstan/capstanlaw04.NumDivides", spec := "numDivides", unfollowed := true, recurses := true, named := ["capstan/num.spans"], apart := false, laid := [("capstan/num.spans", laid_capstan_num_spans)], narrowed := true }
def NumDividesUptoSaid : Prop := numDividesUptoRow.holds Tryd.pinned (OpenSpec.upto numDividesSpec)

/-- 'capstanlaw04.NumCompares', WHERE WHAT IT READS IS OF BULK AT MOST 1048576: true; the input reads as it did. -/
def numComparesUptoRow : OpenClaim := { program := "ytffeigdgleohlaadoor", sum := "9fc5e97d7fe4d8ddb5f196de70e9df28cc53c71f43128b2a66e9dc6db27894b7", func := "capstan/capstanlaw04.NumCompares", spec := "numCompares", unfollowed := true, recurses := true, named := ["capstan/num.spans"], apart := false, laid := [("capstan/num.spans", laid_capstan_num_spans)], narrowed := true }
def NumComparesUptoSaid : Prop := numComparesUptoRow.holds Tryd.pinned (OpenSpec.upto numComparesSpec)

end Rows
end Go.Proofs.YtffeigdgleohlaaDoor
