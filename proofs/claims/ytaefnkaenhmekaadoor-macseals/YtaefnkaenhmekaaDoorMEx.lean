/- The chapter's example, reckoned by the kernel. -/
import Derived.Test.YtaefnkaenhmekaaDoorKey
import Derived.Test.YtaefnkaenhmekaaDoorHex
namespace Go.Proofs.YtaefnkaenhmekaaDoor
def exKey : List UInt8 := [74, 101, 102, 101]
def exMsg : List UInt8 := [119, 104, 97, 116, 32, 100, 111, 32, 121, 97, 32, 119, 97, 110, 116, 32, 102, 111, 114, 32, 110, 111, 116, 104, 105, 110, 103, 63]
def exHex : List UInt8 := [53, 98, 100, 99, 99, 49, 52, 54, 98, 102, 54, 48, 55, 53, 52, 101, 54, 97, 48, 52, 50, 52, 50, 54, 48, 56, 57, 53, 55, 53, 99, 55, 53, 97, 48, 48, 51, 102, 48, 56, 57, 100, 50, 55, 51, 57, 56, 51, 57, 100, 101, 99, 53, 56, 98, 57, 54, 52, 101, 99, 51, 56, 52, 51]
set_option maxRecDepth 100000 in
theorem ex_tag : hexL (tagL exKey exMsg) = exHex := by decide +kernel
end Go.Proofs.YtaefnkaenhmekaaDoor
