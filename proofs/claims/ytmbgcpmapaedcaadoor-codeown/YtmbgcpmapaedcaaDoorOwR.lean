/- CodeOwn's walk, as the row asks for it. -/
import Derived.Test.YtmbgcpmapaedcaaDoorOwW
import Derived.Test.YtmbgcpmapaedcaaDoorFrI
namespace Go.Proofs.YtmbgcpmapaedcaaDoor
open Go.RowKit
theorem own_row (nm tv fv iv ov cv : Value) (x : Img) (k : Int) (w : World) (hx : Im w nm tv fv iv ov cv x) (hcap : ∀ a n c, tv = .slice a n c → n ≤ c) (hl : ImL x) (_ : x.name.length ≤ 140737488351232) (_ : ∀ y ∈ x.cd, InB y) (hg : GlP w) : Calls Tryd.prog 4 #[.agg #[nm, tv, fv, iv, ov, cv], .int .i64 k] w fun e w' => e = .returned (.bool true) ∧ Below w.heap.size w w' :=
  own_any nm tv fv iv ov cv x k w hg.1 hg.2 hx hcap hl
end Go.Proofs.YtmbgcpmapaedcaaDoor
