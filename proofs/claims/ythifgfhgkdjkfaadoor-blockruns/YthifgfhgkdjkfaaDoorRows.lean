/-
  NARROWER THAN 'FOR EVERY INPUT', by the rows' own cells (each row's printed sentence says how): BlockSteps: laid · BlockRuns: laid · BlockTimes: laid · BlockEdges: laid · BlockKeeps: laid · BlockCounts: laid.
  DERIVED. THE GIVEN ROWS OF THIS SEAT. 6 by the template 'for every input the law returns true; each argument reads behind the call as it read before'; 0 by the template 'total and deterministic' (their statements: YthifgfhgkdjkfaaDoorTotals.lean).
  GIVEN WITH THE SEED: the statements are not yours to turn. If you find one false, say at which input.
  Laid BY PROGRAM, IN A SANDBOX (cutbox-rows.mjs): the forced cells as the released guide's own fill.sh prints them over the translation ce5b58e42128205d… (all of the seat's roots in one cut). By AI agents, Wed Nov 11 2026. No macro, syntax, notation, axiom, sorry.
-/
import Derived.Test.YthifgfhgkdjkfaaDoorChecked
import GoSem.Claim
import GoSem.ClaimJoined
import GoSem.ClaimMapViews
import Derived.JoinedTies
import Derived.KernelRfl
namespace Go.Proofs.YthifgfhgkdjkfaaDoor
/- THE CELL 'sum', in the pinned program and in every row, IS THE sha256 OF THE DUMP (.gsa) THAT YthifgfhgkdjkfaaDoorProg.lean LOADS. Nothing in Lean hashes anything: it is a label: what it is worth is what the hold of that sum in a sandbox is worth. -/
noncomputable def Tryd.pinned : Pinned := { name := "ythifgfhgkdjkfaadoor", sum := "ce5b58e42128205db3e5af85b002598a516724c740e2a9f0ac9410bbe473aa33", checked := Tryd.checked }
namespace Rows
def none {H : Type} : Left H := { results := [], args := [] }

/- WHAT THE LISTED PACKAGE-LEVEL VARIABLES READ AS WHEN THE CALL BEGINS. Each datum BY PROGRAM (the guide's laid-datum.mjs) off the statement by which the dump's own 'gosem.cut.vars' lays the variable. In a bare row this is a premise. The card (YthifgfhgkdjkfaaDoorCards.lean) ties it to the program's text. -/
def laid_capstan_num_spans {H : Type} : DataW H := .agg [.agg [.lit (.int .i64 0), .lit (.int .i64 0)], .agg [.lit (.int .i64 0), .lit (.int .i64 1)], .agg [.lit (.int .i64 (-32768)), .lit (.int .i64 32767)], .agg [.lit (.int .i64 (-2147483648)), .lit (.int .i64 2147483647)], .agg [.lit (.int .i64 (-2147483648)), .lit (.int .i64 2147483647)]]

/-- 'capstanlaw12.BlockSteps': WHATEVER THE INPUT: true; the input reads as it did. -/
def blockStepsSpec : ChangeSpec := { name := "blockSteps", fn := fun _ => fun
  | [d1, d2, d3] => { results := [.lit (.bool true)], args := [d1, d2, d3] }
  | _ => none }
def blockStepsRow : OpenClaim := { program := "ythifgfhgkdjkfaadoor", sum := "ce5b58e42128205db3e5af85b002598a516724c740e2a9f0ac9410bbe473aa33", func := "capstan/capstanlaw12.BlockSteps", spec := "blockSteps", unfollowed := true, recurses := true, named := ["capstan/num.spans"], apart := false, laid := [("capstan/num.spans", laid_capstan_num_spans)] }
def BlockStepsSaid : Prop := blockStepsRow.holds Tryd.pinned (OpenSpec.ofChange blockStepsSpec)

/-- ITS FALSE NEIGHBOUR: 'it returns false'. Refute it at one input. -/
def blockStepsWrong : ChangeSpec := { name := "blockSteps", fn := fun _ => fun
  | [d1, d2, d3] => { results := [.lit (.bool false)], args := [d1, d2, d3] }
  | _ => none }
def BlockStepsWrongFalsely : Prop := blockStepsRow.holds Tryd.pinned (OpenSpec.ofChange blockStepsWrong)

/-- 'capstanlaw12.BlockRuns': WHATEVER THE INPUT: true; the input reads as it did. -/
def blockRunsSpec : ChangeSpec := { name := "blockRuns", fn := fun _ => fun
  | [d1, d2, d3] => { results := [.lit (.bool true)], args := [d1, d2, d3] }
  | _ => none }
def blockRunsRow : OpenClaim := { program := "ythifgfhgkdjkfaadoor", sum := "ce5b58e42128205db3e5af85b002598a516724c740e2a9f0ac9410bbe473aa33", func := "capstan/capstanlaw12.BlockRuns", spec := "blockRuns", unfollowed := true, recurses := true, named := ["capstan/num.spans"], apart := false, laid := [("capstan/num.spans", laid_capstan_num_spans)] }
def BlockRunsSaid : Prop := blockRunsRow.holds Tryd.pinned (OpenSpec.ofChange blockRunsSpec)

/-- ITS FALSE NEIGHBOUR: 'it returns false'. Refute it at one input. -/
def blockRunsWrong : ChangeSpec := { name := "blockRuns", fn := fun _ => fun
  | [d1, d2, d3] => { results := [.lit (.bool false)], args := [d1, d2, d3] }
  | _ => none }
def BlockRunsWrongFalsely : Prop := blockRunsRow.holds Tryd.pinned (OpenSpec.ofChange blockRunsWrong)

/-- 'capstanlaw12.BlockTimes': WHATEVER THE INPUT: true; the input reads as it did. -/
def blockTimesSpec : ChangeSpec := { name := "blockTimes", fn := fun _ => fun
  | [d1, d2, d3] => { results := [.lit (.bool true)], args := [d1, d2, d3] }
  | _ => none }
def blockTimesRow : OpenClaim := { program := "ythifgfhgkdjkfaadoor", sum := "ce5b58e42128205db3e5af85b002598a516724c740e2a9f0ac9410bbe473aa33", func := "capstan/capstanlaw12.BlockTimes", spec := "blockTimes", unfollowed := true, recurses := true, named := ["capstan/num.spans"], apart := false, laid := [("capstan/num.spans", laid_capstan_num_spans)] }
def BlockTimesSaid : Prop := blockTimesRow.holds Tryd.pinned (OpenSpec.ofChange blockTimesSpec)

/-- ITS FALSE NEIGHBOUR: 'it returns false'. Refute it at one input. -/
def blockTimesWrong : ChangeSpec := { name := "blockTimes", fn := fun _ => fun
  | [d1, d2, d3] => { results := [.lit (.bool false)], args := [d1, d2, d3] }
  | _ => none }
def BlockTimesWrongFalsely : Prop := blockTimesRow.holds Tryd.pinned (OpenSpec.ofChange blockTimesWrong)

/-- 'capstanlaw12.BlockEdges': WHATEVER THE INPUT: true; the input reads as it did. -/
def blockEdgesSpec : ChangeSpec := { name := "blockEdges", fn := fun _ => fun
  | [d1, d2] => { results := [.lit (.bool true)], args := [d1, d2] }
  | _ => none }
def blockEdgesRow : OpenClaim := { program := "ythifgfhgkdjkfaadoor", sum := "ce5b58e42128205db3e5af85b002598a516724c740e2a9f0ac9410bbe473aa33", func := "capstan/capstanlaw12.BlockEdges", spec := "blockEdges", unfollowed := true, recurses := true, named := ["capstan/num.spans"], apart := false, laid := [("capstan/num.spans", laid_capstan_num_spans)] }
def BlockEdgesSaid : Prop := blockEdgesRow.holds Tryd.pinned (OpenSpec.ofChange blockEdgesSpec)

/-- ITS FALSE NEIGHBOUR: 'it returns false'. Refute it at one input. -/
def blockEdgesWrong : ChangeSpec := { name := "blockEdges", fn := fun _ => fun
  | [d1, d2] => { results := [.lit (.bool false)], args := [d1, d2] }
  | _ => none }
def BlockEdgesWrongFalsely : Prop := blockEdgesRow.holds Tryd.pinned (OpenSpec.ofChange blockEdgesWrong)

/-- 'capstanlaw12.BlockKeeps': WHATEVER THE INPUT: true; the input reads as it did. -/
def blockKeepsSpec : ChangeSpec := { name := "blockKeeps", fn := fun _ => fun
  | [d1, d2] => { results := [.lit (.bool true)], args := [d1, d2] }
  | _ => none }
def blockKeepsRow : OpenClaim := { program := "ythifgfhgkdjkfaadoor", sum := "ce5b58e42128205db3e5af85b002598a516724c740e2a9f0ac9410bbe473aa33", func := "capstan/capstanlaw12.BlockKeeps", spec := "blockKeeps", unfollowed := true, recurses := true, named := ["capstan/num.spans"], apart := false, laid := [("capstan/num.spans", laid_capstan_num_spans)] }
def BlockKeepsSaid : Prop := blockKeepsRow.holds Tryd.pinned (OpenSpec.ofChange blockKeepsSpec)

/-- ITS FALSE NEIGHBOUR: 'it returns false'. Refute it at one input. -/
def blockKeepsWrong : ChangeSpec := { name := "blockKeeps", fn := fun _ => fun
  | [d1, d2] => { results := [.lit (.bool false)], args := [d1, d2] }
  | _ => none }
def BlockKeepsWrongFalsely : Prop := blockKeepsRow.holds Tryd.pinned (OpenSpec.ofChange blockKeepsWrong)

/-- 'capstanlaw12.BlockCounts': WHATEVER THE INPUT: true; the input reads as it did. -/
def blockCountsSpec : ChangeSpec := { name := "blockCounts", fn := fun _ => fun
  | [d1, d2] => { results := [.lit (.bool true)], args := [d1, d2] }
  | _ => none }
def blockCountsRow : OpenClaim := { program := "ythifgfhgkdjkfaadoor", sum := "ce5b58e42128205db3e5af85b002598a516724c740e2a9f0ac9410bbe473aa33", func := "capstan/capstanlaw12.BlockCounts", spec := "blockCounts", unfollowed := true, recurses := true, named := ["capstan/num.spans"], apart := false, laid := [("capstan/num.spans", laid_capstan_num_spans)] }
def BlockCountsSaid : Prop := blockCountsRow.holds Tryd.pinned (OpenSpec.ofChange blockCountsSpec)

/-- ITS FALSE NEIGHBOUR: 'it returns false'. Refute it at one input. -/
def blockCountsWrong : ChangeSpec := { name := "blockCounts", fn := fun _ => fun
  | [d1, d2] => { results := [.lit (.bool false)], args := [d1, d2] }
  | _ => none }
def BlockCountsWrongFalsely : Prop := blockCountsRow.holds Tryd.pinned (OpenSpec.ofChange blockCountsWrong)

/- THE SECOND FORM. 'bulk': how many values and letters a reading holds, each counted each time it is reached (what is shared counts as often as it is met; a slice's spare places count too). A statement '..UptoSaid' is the law's where the arguments, and the package variables that the reading takes, are together of bulk at most 1048576: NARROWER than '..Said'. Prove '..Said' where nothing that the law and all that it calls make is longer than what came in: it says more and counts as full. Else prove '..UptoSaid'. A law counts once. -/
mutual
def uptoBulk {H : Type} : DataW H → Nat
  | .lit (.string bytes) => bytes.length + 1
  | .lit _ => 1
  | .nil => 1
  | .ptr d => uptoBulk d + 1
  | .slice elems spare => uptoBulkAll elems + uptoBulkAll spare + 1
  | .agg parts => uptoBulkAll parts + 1
  | .iface _ d => uptoBulk d + 1
  | .map entries => uptoBulkEntries entries + 1
  | .held _ => 1
def uptoBulkAll {H : Type} : List (DataW H) → Nat
  | [] => 0
  | d :: r => uptoBulk d + uptoBulkAll r
def uptoBulkEntries {H : Type} : List (Lit × DataW H) → Nat
  | [] => 0
  | x :: r => uptoBulkEntry x + uptoBulkEntries r
def uptoBulkEntry {H : Type} : Lit × DataW H → Nat
  | (.string bytes, d) => bytes.length + uptoBulk d + 1
  | (_, d) => uptoBulk d + 1
 end
def uptoSmall : (H : Type) → List (DataW H) → Bool := fun _ ds => decide (uptoBulkAll ds ≤ 1048576)
def OpenSpec.upto (s : _root_.Go.ChangeSpec) : _root_.Go.OpenSpec := { _root_.Go.OpenSpec.ofChange s with cond := some uptoSmall }

/-- 'capstanlaw12.BlockSteps', WHERE WHAT IT READS IS OF BULK AT MOST 1048576: true; the input reads as it did. -/
def blockStepsUptoRow : OpenClaim := { program := "ythifgfhgkdjkfaadoor", sum := "ce5b58e42128205db3e5af85b002598a516724c740e2a9f0ac9410bbe473aa33", func := "capstan/capstanlaw12.BlockSteps", spec := "blockSteps", unfollowed := true, recurses := true, named := ["capstan/num.spans"], apart := false, laid := [("capstan/num.spans", laid_capstan_num_spans)], narrowed := true }
def BlockStepsUptoSaid : Prop := blockStepsUptoRow.holds Tryd.pinned (OpenSpec.upto blockStepsSpec)

/-- 'capstanlaw12.BlockRuns', WHERE WHAT IT READS IS OF BULK AT MOST 1048576: true; the input reads as it did. -/
def blockRunsUptoRow : OpenClaim := { program := "ythifgfhgkdjkfaadoor", sum := "ce5b58e42128205db3e5af85b002598a516724c740e2a9f0ac9410bbe473aa33", func := "capstan/capstanlaw12.BlockRuns", spec := "blockRuns", unfollowed := true, recurses := true, named := ["capstan/num.spans"], apart := false, laid := [("capstan/num.spans", laid_capstan_num_spans)], narrowed := true }
def BlockRunsUptoSaid : Prop := blockRunsUptoRow.holds Tryd.pinned (OpenSpec.upto blockRunsSpec)

/-- 'capstanlaw12.BlockTimes', WHERE WHAT IT READS IS OF BULK AT MOST 1048576: true; the input reads as it did. -/
def blockTimesUptoRow : OpenClaim := { program := "ythifgfhgkdjkfaadoor", sum := "ce5b58e42128205db3e5af85b002598a516724c740e2a9f0ac9410bbe473aa33", func := "capstan/capstanlaw12.BlockTimes", spec := "blockTimes", unfollowed := true, recurses := true, named := ["capstan/num.spans"], apart := false, laid := [("capstan/num.spans", laid_capstan_num_spans)], narrowed := true }
def BlockTimesUptoSaid : Prop := blockTimesUptoRow.holds Tryd.pinned (OpenSpec.upto blockTimesSpec)

/-- 'capstanlaw12.BlockEdges', WHERE WHAT IT READS IS OF BULK AT MOST 1048576: true; the input reads as it did. -/
def blockEdgesUptoRow : OpenClaim := { program := "ythifgfhgkdjkfaadoor", sum := "ce5b58e42128205db3e5af85b002598a516724c740e2a9f0ac9410bbe473aa33", func := "capstan/capstanlaw12.BlockEdges", spec := "blockEdges", unfollowed := true, recurses := true, named := ["capstan/num.spans"], apart := false, laid := [("capstan/num.spans", laid_capstan_num_spans)], narrowed := true }
def BlockEdgesUptoSaid : Prop := blockEdgesUptoRow.holds Tryd.pinned (OpenSpec.upto blockEdgesSpec)

/-- 'capstanlaw12.BlockKeeps', WHERE WHAT IT READS IS OF BULK AT MOST 1048576: true; the input reads as it did. -/
def blockKeepsUptoRow : OpenClaim := { program := "ythifgfhgkdjkfaadoor", sum := "ce5b58e42128205db3e5af85b002598a516724c740e2a9f0ac9410bbe473aa33", func := "capstan/capstanlaw12.BlockKeeps", spec := "blockKeeps", unfollowed := true, recurses := true, named := ["capstan/num.spans"], apart := false, laid := [("capstan/num.spans", laid_capstan_num_spans)], narrowed := true }
def BlockKeepsUptoSaid : Prop := blockKeepsUptoRow.holds Tryd.pinned (OpenSpec.upto blockKeepsSpec)

/-- 'capstanlaw12.BlockCounts', WHERE WHAT IT READS IS OF BULK AT MOST 1048576: true; the input reads as it did. -/
def blockCountsUptoRow : OpenClaim := { program := "ythifgfhgkdjkfaadoor", sum := "ce5b58e42128205db3e5af85b002598a516724c740e2a9f0ac9410bbe473aa33", func := "capstan/capstanlaw12.BlockCounts", spec := "blockCounts", unfollowed := true, recurses := true, named := ["capstan/num.spans"], apart := false, laid := [("capstan/num.spans", laid_capstan_num_spans)], narrowed := true }
def BlockCountsUptoSaid : Prop := blockCountsUptoRow.holds Tryd.pinned (OpenSpec.upto blockCountsSpec)

end Rows
end Go.Proofs.YthifgfhgkdjkfaaDoor
