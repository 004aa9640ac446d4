/- VerifyDead's walk, as the row asks for it. -/
import Derived.Test.YtlckedionmgjjaaDoorVsW
import Derived.Test.YtlckedionmgjjaaDoorMg15
namespace Go.Proofs.YtlckedionmgjjaaDoor
open Go.RowKit
theorem dead_row (nm tv fv iv ov cv : Value) (x : Img) (lv : Value) (l : List Ins) (w : World) (hx : Im w nm tv fv iv ov cv x) (hcap : ∀ a n c, tv = .slice a n c → n ≤ c) (hl : ImL x) (_ : x.name.length ≤ 140737488351232) (_ : ∀ y ∈ x.cd, InB y) (hv : ISt w lv l) (hg : GlP w) : Calls Tryd.prog 4 #[.agg #[nm, tv, fv, iv, ov, cv], lv] w fun e w' => e = .returned (.bool true) ∧ Below w.heap.size w w' :=
  dead_any nm tv fv iv ov cv lv x l w hg.1 hg.2 hx hcap hl hv
end Go.Proofs.YtlckedionmgjjaaDoor
