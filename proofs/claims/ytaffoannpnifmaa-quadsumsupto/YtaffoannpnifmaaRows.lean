/-
  No cell of these rows narrows 'for every input' (looked for: loops, veiled, ifaces, maps, wideKeys, modest, calm, conditions, laid).
  DERIVED. THE GIVEN ROWS OF THIS SEAT. 6 by the template 'for every input the law returns true; each argument reads behind the call as it read before'; 0 by the template 'total and deterministic' (their statements: YtaffoannpnifmaaTotals.lean).
  GIVEN WITH THE SEED: the statements are not yours to turn. If you find one false, say at which input.
  Laid BY PROGRAM, IN A SANDBOX (cutbox-rows.mjs): the forced cells as the released guide's own fill.sh prints them over the translation 91c8a68d15a20d75… (all of the seat's roots in one cut). By AI agents, Wed Nov 11 2026. No macro, syntax, notation, axiom, sorry.
-/
import Derived.Test.YtaffoannpnifmaaChecked
import GoSem.Claim
import GoSem.ClaimJoined
import GoSem.ClaimMapViews
import Derived.JoinedTies
import Derived.KernelRfl
namespace Go.Proofs.Ytaffoannpnifmaa
/- THE CELL 'sum', in the pinned program and in every row, IS THE sha256 OF THE DUMP (.gsa) THAT YtaffoannpnifmaaProg.lean LOADS. Nothing in Lean hashes anything: it is a label: what it is worth is what the hold of that sum in a sandbox is worth. -/
noncomputable def Try.pinned : Pinned := { name := "ytaffoannpnifmaa", sum := "91c8a68d15a20d75f6316cf4291b95f7e38c523a2841c0fd38ca6147451cb731", checked := Try.checked }
namespace Rows
def none {H : Type} : Left H := { results := [], args := [] }

/-- 'capstanlaw11.QuadPlaces': WHATEVER THE INPUT: true; the input reads as it did. -/
def quadPlacesSpec : ChangeSpec := { name := "quadPlaces", fn := fun _ => fun
  | [d1, d2] => { results := [.lit (.bool true)], args := [d1, d2] }
  | _ => none }
def quadPlacesRow : OpenClaim := { program := "ytaffoannpnifmaa", sum := "91c8a68d15a20d75f6316cf4291b95f7e38c523a2841c0fd38ca6147451cb731", func := "capstan/capstanlaw11.QuadPlaces", spec := "quadPlaces", apart := false }
def QuadPlacesSaid : Prop := quadPlacesRow.holds Try.pinned (OpenSpec.ofChange quadPlacesSpec)

/-- ITS FALSE NEIGHBOUR: 'it returns false'. Refute it at one input. -/
def quadPlacesWrong : ChangeSpec := { name := "quadPlaces", fn := fun _ => fun
  | [d1, d2] => { results := [.lit (.bool false)], args := [d1, d2] }
  | _ => none }
def QuadPlacesWrongFalsely : Prop := quadPlacesRow.holds Try.pinned (OpenSpec.ofChange quadPlacesWrong)

/-- 'capstanlaw11.QuadTurns': WHATEVER THE INPUT: true; the input reads as it did. -/
def quadTurnsSpec : ChangeSpec := { name := "quadTurns", fn := fun _ => fun
  | [d1, d2] => { results := [.lit (.bool true)], args := [d1, d2] }
  | _ => none }
def quadTurnsRow : OpenClaim := { program := "ytaffoannpnifmaa", sum := "91c8a68d15a20d75f6316cf4291b95f7e38c523a2841c0fd38ca6147451cb731", func := "capstan/capstanlaw11.QuadTurns", spec := "quadTurns", apart := false }
def QuadTurnsSaid : Prop := quadTurnsRow.holds Try.pinned (OpenSpec.ofChange quadTurnsSpec)

/-- ITS FALSE NEIGHBOUR: 'it returns false'. Refute it at one input. -/
def quadTurnsWrong : ChangeSpec := { name := "quadTurns", fn := fun _ => fun
  | [d1, d2] => { results := [.lit (.bool false)], args := [d1, d2] }
  | _ => none }
def QuadTurnsWrongFalsely : Prop := quadTurnsRow.holds Try.pinned (OpenSpec.ofChange quadTurnsWrong)

/-- 'capstanlaw11.QuadWalks': WHATEVER THE INPUT: true; the input reads as it did. -/
def quadWalksSpec : ChangeSpec := { name := "quadWalks", fn := fun _ => fun
  | [d1, d2, d3] => { results := [.lit (.bool true)], args := [d1, d2, d3] }
  | _ => none }
def quadWalksRow : OpenClaim := { program := "ytaffoannpnifmaa", sum := "91c8a68d15a20d75f6316cf4291b95f7e38c523a2841c0fd38ca6147451cb731", func := "capstan/capstanlaw11.QuadWalks", spec := "quadWalks", apart := false }
def QuadWalksSaid : Prop := quadWalksRow.holds Try.pinned (OpenSpec.ofChange quadWalksSpec)

/-- ITS FALSE NEIGHBOUR: 'it returns false'. Refute it at one input. -/
def quadWalksWrong : ChangeSpec := { name := "quadWalks", fn := fun _ => fun
  | [d1, d2, d3] => { results := [.lit (.bool false)], args := [d1, d2, d3] }
  | _ => none }
def QuadWalksWrongFalsely : Prop := quadWalksRow.holds Try.pinned (OpenSpec.ofChange quadWalksWrong)

/-- 'capstanlaw11.QuadBack': WHATEVER THE INPUT: true; the input reads as it did. -/
def quadBackSpec : ChangeSpec := { name := "quadBack", fn := fun _ => fun
  | [d1, d2] => { results := [.lit (.bool true)], args := [d1, d2] }
  | _ => none }
def quadBackRow : OpenClaim := { program := "ytaffoannpnifmaa", sum := "91c8a68d15a20d75f6316cf4291b95f7e38c523a2841c0fd38ca6147451cb731", func := "capstan/capstanlaw11.QuadBack", spec := "quadBack", apart := false }
def QuadBackSaid : Prop := quadBackRow.holds Try.pinned (OpenSpec.ofChange quadBackSpec)

/-- ITS FALSE NEIGHBOUR: 'it returns false'. Refute it at one input. -/
def quadBackWrong : ChangeSpec := { name := "quadBack", fn := fun _ => fun
  | [d1, d2] => { results := [.lit (.bool false)], args := [d1, d2] }
  | _ => none }
def QuadBackWrongFalsely : Prop := quadBackRow.holds Try.pinned (OpenSpec.ofChange quadBackWrong)

/-- 'capstanlaw11.QuadCircle': WHATEVER THE INPUT: true; the input reads as it did. -/
def quadCircleSpec : ChangeSpec := { name := "quadCircle", fn := fun _ => fun
  | [d1, d2, d3] => { results := [.lit (.bool true)], args := [d1, d2, d3] }
  | _ => none }
def quadCircleRow : OpenClaim := { program := "ytaffoannpnifmaa", sum := "91c8a68d15a20d75f6316cf4291b95f7e38c523a2841c0fd38ca6147451cb731", func := "capstan/capstanlaw11.QuadCircle", spec := "quadCircle", apart := false }
def QuadCircleSaid : Prop := quadCircleRow.holds Try.pinned (OpenSpec.ofChange quadCircleSpec)

/-- ITS FALSE NEIGHBOUR: 'it returns false'. Refute it at one input. -/
def quadCircleWrong : ChangeSpec := { name := "quadCircle", fn := fun _ => fun
  | [d1, d2, d3] => { results := [.lit (.bool false)], args := [d1, d2, d3] }
  | _ => none }
def QuadCircleWrongFalsely : Prop := quadCircleRow.holds Try.pinned (OpenSpec.ofChange quadCircleWrong)

/-- 'capstanlaw11.QuadSums': WHATEVER THE INPUT: true; the input reads as it did. -/
def quadSumsSpec : ChangeSpec := { name := "quadSums", fn := fun _ => fun
  | [d1, d2] => { results := [.lit (.bool true)], args := [d1, d2] }
  | _ => none }
def quadSumsRow : OpenClaim := { program := "ytaffoannpnifmaa", sum := "91c8a68d15a20d75f6316cf4291b95f7e38c523a2841c0fd38ca6147451cb731", func := "capstan/capstanlaw11.QuadSums", spec := "quadSums", apart := false }
def QuadSumsSaid : Prop := quadSumsRow.holds Try.pinned (OpenSpec.ofChange quadSumsSpec)

/-- ITS FALSE NEIGHBOUR: 'it returns false'. Refute it at one input. -/
def quadSumsWrong : ChangeSpec := { name := "quadSums", fn := fun _ => fun
  | [d1, d2] => { results := [.lit (.bool false)], args := [d1, d2] }
  | _ => none }
def QuadSumsWrongFalsely : Prop := quadSumsRow.holds Try.pinned (OpenSpec.ofChange quadSumsWrong)

/- THE SECOND FORM. 'bulk': how many values and letters a reading holds, each counted each time it is reached (what is shared counts as often as it is met; a slice's spare places count too). A statement '..UptoSaid' is the law's where the arguments, and the package variables that the reading takes, are together of bulk at most 1048576: NARROWER than '..Said'. Prove '..Said' where nothing that the law and all that it calls make is longer than what came in: it says more and counts as full. Else prove '..UptoSaid'. A law counts once. -/
mutual
def uptoBulk {H : Type} : DataW H → Nat
  | .lit (.string bytes) => bytes.length + 1
  | .lit _ => 1
  | .nil => 1
  | .ptr d => uptoBulk d + 1
  | .slice elems spare => uptoBulkAll elems + uptoBulkAll spare + 1
  | .agg parts => uptoBulkAll parts + 1
  | .iface _ d => uptoBulk d + 1
  | .map entries => uptoBulkEntries entries + 1
  | .held _ => 1
def uptoBulkAll {H : Type} : List (DataW H) → Nat
  | [] => 0
  | d :: r => uptoBulk d + uptoBulkAll r
def uptoBulkEntries {H : Type} : List (Lit × DataW H) → Nat
  | [] => 0
  | x :: r => uptoBulkEntry x + uptoBulkEntries r
def uptoBulkEntry {H : Type} : Lit × DataW H → Nat
  | (.string bytes, d) => bytes.length + uptoBulk d + 1
  | (_, d) => uptoBulk d + 1
 end
def uptoSmall : (H : Type) → List (DataW H) → Bool := fun _ ds => decide (uptoBulkAll ds ≤ 1048576)
def OpenSpec.upto (s : _root_.Go.ChangeSpec) : _root_.Go.OpenSpec := { _root_.Go.OpenSpec.ofChange s with cond := some uptoSmall }

/-- 'capstanlaw11.QuadPlaces', WHERE WHAT IT READS IS OF BULK AT MOST 1048576: true; the input reads as it did. -/
def quadPlacesUptoRow : OpenClaim := { program := "ytaffoannpnifmaa", sum := "91c8a68d15a20d75f6316cf4291b95f7e38c523a2841c0fd38ca6147451cb731", func := "capstan/capstanlaw11.QuadPlaces", spec := "quadPlaces", apart := false, narrowed := true }
def QuadPlacesUptoSaid : Prop := quadPlacesUptoRow.holds Try.pinned (OpenSpec.upto quadPlacesSpec)

/-- 'capstanlaw11.QuadTurns', WHERE WHAT IT READS IS OF BULK AT MOST 1048576: true; the input reads as it did. -/
def quadTurnsUptoRow : OpenClaim := { program := "ytaffoannpnifmaa", sum := "91c8a68d15a20d75f6316cf4291b95f7e38c523a2841c0fd38ca6147451cb731", func := "capstan/capstanlaw11.QuadTurns", spec := "quadTurns", apart := false, narrowed := true }
def QuadTurnsUptoSaid : Prop := quadTurnsUptoRow.holds Try.pinned (OpenSpec.upto quadTurnsSpec)

/-- 'capstanlaw11.QuadWalks', WHERE WHAT IT READS IS OF BULK AT MOST 1048576: true; the input reads as it did. -/
def quadWalksUptoRow : OpenClaim := { program := "ytaffoannpnifmaa", sum := "91c8a68d15a20d75f6316cf4291b95f7e38c523a2841c0fd38ca6147451cb731", func := "capstan/capstanlaw11.QuadWalks", spec := "quadWalks", apart := false, narrowed := true }
def QuadWalksUptoSaid : Prop := quadWalksUptoRow.holds Try.pinned (OpenSpec.upto quadWalksSpec)

/-- 'capstanlaw11.QuadBack', WHERE WHAT IT READS IS OF BULK AT MOST 1048576: true; the input reads as it did. -/
def quadBackUptoRow : OpenClaim := { program := "ytaffoannpnifmaa", sum := "91c8a68d15a20d75f6316cf4291b95f7e38c523a2841c0fd38ca6147451cb731", func := "capstan/capstanlaw11.QuadBack", spec := "quadBack", apart := false, narrowed := true }
def QuadBackUptoSaid : Prop := quadBackUptoRow.holds Try.pinned (OpenSpec.upto quadBackSpec)

/-- 'capstanlaw11.QuadCircle', WHERE WHAT IT READS IS OF BULK AT MOST 1048576: true; the input reads as it did. -/
def quadCircleUptoRow : OpenClaim := { program := "ytaffoannpnifmaa", sum := "91c8a68d15a20d75f6316cf4291b95f7e38c523a2841c0fd38ca6147451cb731", func := "capstan/capstanlaw11.QuadCircle", spec := "quadCircle", apart := false, narrowed := true }
def QuadCircleUptoSaid : Prop := quadCircleUptoRow.holds Try.pinned (OpenSpec.upto quadCircleSpec)

/-- 'capstanlaw11.QuadSums', WHERE WHAT IT READS IS OF BULK AT MOST 1048576: true; the input reads as it did. -/
def quadSumsUptoRow : OpenClaim := { program := "ytaffoannpnifmaa", sum := "91c8a68d15a20d75f6316cf4291b95f7e38c523a2841c0fd38ca6147451cb731", func := "capstan/capstanlaw11.QuadSums", spec := "quadSums", apart := false, narrowed := true }
def QuadSumsUptoSaid : Prop := quadSumsUptoRow.holds Try.pinned (OpenSpec.upto quadSumsSpec)

end Rows
end Go.Proofs.Ytaffoannpnifmaa
