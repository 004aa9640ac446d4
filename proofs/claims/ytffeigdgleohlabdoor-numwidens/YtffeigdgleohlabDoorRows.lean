/-
  NARROWER THAN 'FOR EVERY INPUT', by the rows' own cells (each row's printed sentence says how): NumSigns: laid · NumWidens: laid.
  DERIVED. THE GIVEN ROWS OF THIS SEAT. 2 by the template 'for every input the law returns true; each argument reads behind the call as it read before'; 0 by the template 'total and deterministic' (their statements: YtffeigdgleohlabDoorTotals.lean).
  GIVEN WITH THE SEED: the statements are not yours to turn. If you find one false, say at which input.
  Laid BY PROGRAM, IN A SANDBOX (cutbox-rows.mjs): the forced cells as the released guide's own fill.sh prints them over the translation df1807b7add8e3ce… (all of the seat's roots in one cut). By AI agents, Wed Nov 11 2026. No macro, syntax, notation, axiom, sorry.
-/
import Derived.Test.YtffeigdgleohlabDoorChecked
import GoSem.Claim
import GoSem.ClaimJoined
import GoSem.ClaimMapViews
import Derived.JoinedTies
import Derived.KernelRfl
namespace Go.Proofs.YtffeigdgleohlabDoor
/- THE CELL 'sum', in the pinned program and in every row, IS THE sha256 OF THE DUMP (.gsa) THAT YtffeigdgleohlabDoorProg.lean LOADS. Nothing in Lean hashes anything: it is a label: what it is worth is what the hold of that sum in a sandbox is worth. -/
noncomputable def Tryd.pinned : Pinned := { name := "ytffeigdgleohlabdoor", sum := "df1807b7add8e3ceb4f05e84cd24e0e28ffd1f209da497812838a72a07b3b192", checked := Tryd.checked }
namespace Rows
def none {H : Type} : Left H := { results := [], args := [] }

/- WHAT THE LISTED PACKAGE-LEVEL VARIABLES READ AS WHEN THE CALL BEGINS. Each datum BY PROGRAM (the guide's laid-datum.mjs) off the statement by which the dump's own 'gosem.cut.vars' lays the variable. In a bare row this is a premise. The card (YtffeigdgleohlabDoorCards.lean) ties it to the program's text. -/
def laid_capstan_num_spans {H : Type} : DataW H := .agg [.agg [.lit (.int .i64 0), .lit (.int .i64 0)], .agg [.lit (.int .i64 0), .lit (.int .i64 1)], .agg [.lit (.int .i64 (-32768)), .lit (.int .i64 32767)], .agg [.lit (.int .i64 (-2147483648)), .lit (.int .i64 2147483647)], .agg [.lit (.int .i64 (-2147483648)), .lit (.int .i64 2147483647)]]

/-- 'capstanlaw04.NumSigns': WHATEVER THE INPUT: true; the input reads as it did. -/
def numSignsSpec : ChangeSpec := { name := "numSigns", fn := fun _ => fun
  | [d1, d2] => { results := [.lit (.bool true)], args := [d1, d2] }
  | _ => none }
def numSignsRow : OpenClaim := { program := "ytffeigdgleohlabdoor", sum := "df1807b7add8e3ceb4f05e84cd24e0e28ffd1f209da497812838a72a07b3b192", func := "capstan/capstanlaw04.NumSigns", spec := "numSigns", unfollowed := true, recurses := true, named := ["capstan/num.spans"], apart := false, laid := [("capstan/num.spans", laid_capstan_num_spans)] }
def NumSignsSaid : Prop := numSignsRow.holds Tryd.pinned (OpenSpec.ofChange numSignsSpec)

/-- ITS FALSE NEIGHBOUR: 'it returns false'. Refute it at one input. -/
def numSignsWrong : ChangeSpec := { name := "numSigns", fn := fun _ => fun
  | [d1, d2] => { results := [.lit (.bool false)], args := [d1, d2] }
  | _ => none }
def NumSignsWrongFalsely : Prop := numSignsRow.holds Tryd.pinned (OpenSpec.ofChange numSignsWrong)

/-- 'capstanlaw04.NumWidens': WHATEVER THE INPUT: true; the input reads as it did. -/
def numWidensSpec : ChangeSpec := { name := "numWidens", fn := fun _ => fun
  | [d] => { results := [.lit (.bool true)], args := [d] }
  | _ => none }
def numWidensRow : OpenClaim := { program := "ytffeigdgleohlabdoor", sum := "df1807b7add8e3ceb4f05e84cd24e0e28ffd1f209da497812838a72a07b3b192", func := "capstan/capstanlaw04.NumWidens", spec := "numWidens", unfollowed := true, recurses := true, named := ["capstan/num.spans"], apart := false, laid := [("capstan/num.spans", laid_capstan_num_spans)] }
def NumWidensSaid : Prop := numWidensRow.holds Tryd.pinned (OpenSpec.ofChange numWidensSpec)

/-- ITS FALSE NEIGHBOUR: 'it returns false'. Refute it at one input. -/
def numWidensWrong : ChangeSpec := { name := "numWidens", fn := fun _ => fun
  | [d] => { results := [.lit (.bool false)], args := [d] }
  | _ => none }
def NumWidensWrongFalsely : Prop := numWidensRow.holds Tryd.pinned (OpenSpec.ofChange numWidensWrong)

/- THE SECOND FORM. 'bulk': how many values and letters a reading holds, each counted each time it is reached (what is shared counts as often as it is met; a slice's spare places count too). A statement '..UptoSaid' is the law's where the arguments, and the package variables that the reading takes, are together of bulk at most 1048576: NARROWER than '..Said'. Prove '..Said' where nothing that the law and all that it calls make is longer than what came in: it says more and counts as full. Else prove '..UptoSaid'. A law counts once. -/
mutual
def uptoBulk {H : Type} : DataW H → Nat
  | .lit (.string bytes) => bytes.length + 1
  | .lit _ => 1
  | .nil => 1
  | .ptr d => uptoBulk d + 1
  | .slice elems spare => uptoBulkAll elems + uptoBulkAll spare + 1
  | .agg parts => uptoBulkAll parts + 1
  | .iface _ d => uptoBulk d + 1
  | .map entries => uptoBulkEntries entries + 1
  | .held _ => 1
def uptoBulkAll {H : Type} : List (DataW H) → Nat
  | [] => 0
  | d :: r => uptoBulk d + uptoBulkAll r
def uptoBulkEntries {H : Type} : List (Lit × DataW H) → Nat
  | [] => 0
  | x :: r => uptoBulkEntry x + uptoBulkEntries r
def uptoBulkEntry {H : Type} : Lit × DataW H → Nat
  | (.string bytes, d) => bytes.length + uptoBulk d + 1
  | (_, d) => uptoBulk d + 1
 end
def uptoSmall : (H : Type) → List (DataW H) → Bool := fun _ ds => decide (uptoBulkAll ds ≤ 1048576)
def OpenSpec.upto (s : _root_.Go.ChangeSpec) : _root_.Go.OpenSpec := { _root_.Go.OpenSpec.ofChange s with cond := some uptoSmall }

/-- 'capstanlaw04.NumSigns', WHERE WHAT IT READS IS OF BULK AT MOST 1048576: true; the input reads as it did. -/
def numSignsUptoRow : OpenClaim := { program := "ytffeigdgleohlabdoor", sum := "df1807b7add8e3ceb4f05e84cd24e0e28ffd1f209da497812838a72a07b3b192", func := "capstan/capstanlaw04.NumSigns", spec := "numSigns", unfollowed := true, recurses := true, named := ["capstan/num.spans"], apart := false, laid := [("capstan/num.spans", laid_capstan_num_spans)], narrowed := true }
def NumSignsUptoSaid : Prop := numSignsUptoRow.holds Tryd.pinned (OpenSpec.upto numSignsSpec)

/-- 'capstanlaw04.NumWidens', WHERE WHAT IT READS IS OF BULK AT MOST 1048576: true; the input reads as it did. -/
def numWidensUptoRow : OpenClaim := { program := "ytffeigdgleohlabdoor", sum := "df1807b7add8e3ceb4f05e84cd24e0e28ffd1f209da497812838a72a07b3b192", func := "capstan/capstanlaw04.NumWidens", spec := "numWidens", unfollowed := true, recurses := true, named := ["capstan/num.spans"], apart := false, laid := [("capstan/num.spans", laid_capstan_num_spans)], narrowed := true }
def NumWidensUptoSaid : Prop := numWidensUptoRow.holds Tryd.pinned (OpenSpec.upto numWidensSpec)

end Rows
end Go.Proofs.YtffeigdgleohlabDoor
