/- What the rows' list gives: the table of spans lies in memory; a world that shows that the list can be met; a Pair among the arguments, opened and shut. -/
import Derived.Test.YthifgfhgkdjkfaaDoorCards
import Derived.Test.YthifgfhgkdjkfaaDoorTie
import Derived.Test.YthifgfhgkdjkfaaDoorFitW
import Derived.WalkKit
import Derived.ProofKit
import Derived.OpenShut
import Derived.Deep.DeepHandedRow
import Derived.Lib.LaidTab
import Derived.Lib.SmallJoins
namespace Go.Proofs.YthifgfhgkdjkfaaDoor
open Go.ChangeShapes Go.WideShapes Go.ChangeAt Go.RowKit
theorem own : ownKnob Tryd.prog.godebug = none := by kernel_rfl
theorem gTab : Tryd.prog.globalNamed "capstan/num.spans" = some 0 := by kernel_rfl
theorem gTabType : (Tryd.prog.globals[0]?).map (·.type) = some 94 := by kernel_rfl
theorem cells54 : Tryd.prog.cellsOf 94 = 10 := by kernel_rfl
theorem cells53 : Tryd.prog.cellsOf 93 = 2 := by kernel_rfl
theorem cells2 : Tryd.prog.cellsOf 2 = 1 := by kernel_rfl
/-- a span's two cells, off its reading -/
theorem span_cells {H : Type} {enc : TypeId × Value → H} {W : World} {base : Nat} {sp : Nat → Bool} {held : Bool} {fuel : Nat} {cs : List Value} {x : DataW H × List MemPlace} {a b : Int}
    (h : DataW.trod enc Tryd.prog W base sp held fuel 93 cs = some x) (hx : x.1 = .agg [.lit (.int .i64 a), .lit (.int .i64 b)]) : cs[0]? = some (.int .i64 a) ∧ cs[1]? = some (.int .i64 b) := by
  obtain ⟨y0, y1, n, rfl, _, h0, h1⟩ := trod_struct2 Tryd.underlying93 h
  simp only [DataW.agg.injEq, List.cons.injEq, and_true] at hx
  obtain ⟨z0, c0, e0, _⟩ := DataW.trod_int Tryd.underlying2 h0
  obtain ⟨z1, c1, e1, _⟩ := DataW.trod_int Tryd.underlying2 h1
  rw [e0, e1] at hx
  simp only [DataW.lit.injEq, Lit.int.injEq, true_and] at hx
  obtain ⟨rfl, rfl⟩ := hx
  rw [cells2] at c0 c1
  constructor
  · have := congrArg (·[0]?) c0
    simpa [List.getElem?_take, List.getElem?_drop] using this
  · have := congrArg (·[0]?) c1
    simpa [List.getElem?_take, List.getElem?_drop] using this
theorem glo_of_laid {W : World} (h : laidMetH Tryd.prog [("capstan/num.spans", Rows.laid_capstan_num_spans)] W) : Glo W := by
  have h' : laidMet Tryd.prog [("capstan/num.spans", Rows.laid_capstan_num_spans)] W := h
  obtain ⟨ps, ⟨g', t', cs, fuel, p, q, hg', ht', hvar, hd, _, _⟩, _⟩ := h'
  obtain rfl := Option.some.inj (gTab.symm.trans hg')
  obtain rfl := Option.some.inj (gTabType.symm.trans ht')
  obtain ⟨xs, m, _, hx, hl, hn, hi⟩ := DataW.trod_array Tryd.underlying94 hd
  rw [cells54] at hl
  rw [cells53] at hi
  simp only [Prod.mk.injEq] at hx
  have hxs := hx.1
  have each : ∀ i (hi5 : i < 5) (a b : Int), (xs.map (·.1))[i]? = some (.agg [.lit (.int .i64 a), .lit (.int .i64 b)]) → cs[i * 2]? = some (.int .i64 a) ∧ cs[i * 2 + 1]? = some (.int .i64 b) := fun i hi5 a b hab => by
    obtain ⟨x, hxi, hxe⟩ : ∃ x, xs[i]? = some x ∧ x.1 = .agg [.lit (.int .i64 a), .lit (.int .i64 b)] := by
      rw [List.getElem?_map, Option.map_eq_some_iff] at hab; exact hab
    have h1 := hi i hi5
    rw [hxi] at h1
    obtain ⟨c0, c1⟩ := span_cells h1 hxe
    constructor
    · simpa [List.getElem?_take, List.getElem?_drop] using c0
    · simpa [List.getElem?_take, List.getElem?_drop] using c1
  have hmap : xs.map (·.1) = [.agg [.lit (.int .i64 0), .lit (.int .i64 0)], .agg [.lit (.int .i64 0), .lit (.int .i64 1)], .agg [.lit (.int .i64 (-32768)), .lit (.int .i64 32767)], .agg [.lit (.int .i64 (-2147483648)), .lit (.int .i64 2147483647)], .agg [.lit (.int .i64 (-2147483648)), .lit (.int .i64 2147483647)]] := by
    have := hxs.symm
    injection this
  rw [hmap] at each
  have a0 := each 0 (by omega) _ _ rfl
  have a1 := each 1 (by omega) _ _ rfl
  have a2 := each 2 (by omega) _ _ rfl
  have a3 := each 3 (by omega) _ _ rfl
  have a4 := each 4 (by omega) _ _ rfl
  intro k hk
  have hc := World.var?_cell gTab hvar k
  rw [show W.cell? ⟨0, k, none⟩ = cs[k]? from by simpa using hc]
  have : k = 0 ∨ k = 1 ∨ k = 2 ∨ k = 3 ∨ k = 4 ∨ k = 5 ∨ k = 6 ∨ k = 7 ∨ k = 8 ∨ k = 9 := by omega
  rcases this with rfl | rfl | rfl | rfl | rfl | rfl | rfl | rfl | rfl | rfl
  · exact a0.1
  · exact a0.2
  · exact a1.1
  · exact a1.2
  · exact a2.1
  · exact a2.2
  · exact a3.1
  · exact a3.2
  · exact a4.1
  · exact a4.2
/-- the table laid into a world's first block -/
def layGlo (w : World) : World :=
  { w with heap := w.heap.modify 0 fun
      | .cells _ t frozen => .cells #[.int .i64 0, .int .i64 0, .int .i64 0, .int .i64 1, .int .i64 (-32768), .int .i64 32767, .int .i64 (-2147483648), .int .i64 2147483647, .int .i64 (-2147483648), .int .i64 2147483647] t frozen
      | o => o }
end Go.Proofs.YthifgfhgkdjkfaaDoor
