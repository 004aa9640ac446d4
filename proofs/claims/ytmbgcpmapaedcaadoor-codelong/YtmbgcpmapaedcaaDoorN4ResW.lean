/- The contracts of the row's result, and of the program's Wrap, Convert. -/
import Derived.Test.YtmbgcpmapaedcaaDoorN4RefW
namespace Go.Proofs.YtmbgcpmapaedcaaDoor.Four
open Go.RowKit
end Go.Proofs.YtmbgcpmapaedcaaDoor.Four
