/- The chapter's examples, plain. -/
import Derived.Test.YtfcnbiikjopajaaDoorToksW
namespace Go.Proofs.YtfcnbiikjopajaaDoor
def ex1 : Bs := [120, 58, 61, 73, 78, 84, 35, 45, 53, 43, 49, 54, 35, 49, 102, 59, 32, 40, 42, 32, 110, 111, 116, 101, 32, 42, 41]
def ex2 : Bs := [84, 35, 49, 109, 50, 115, 53, 109, 115]
theorem toks_ex1 : toks ex1 = .ok [(wordT [88], 27), (signT [58, 61], 26), (numT (-5) 2, 24), (signT [43], 18), (numT 31 0, 17), (signT [59], 12), (endT, 0)] := by kernel_rfl
theorem toks_ex2 : toks ex2 = .ok [(numT 62005 4, 9), (endT, 0)] := by kernel_rfl
end Go.Proofs.YtfcnbiikjopajaaDoor
