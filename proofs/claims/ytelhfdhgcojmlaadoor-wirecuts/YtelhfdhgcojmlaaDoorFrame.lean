/- What the rows' list gives (the variable errors.errorType), a world that shows that the list can be met, and a slice of items among the arguments, opened. -/
import Derived.Test.YtelhfdhgcojmlaaDoorCards
import Derived.Test.YtelhfdhgcojmlaaDoorTie
import Derived.Test.YtelhfdhgcojmlaaDoorEncP
import Derived.WalkKit
import Derived.ProofKit
import Derived.OpenShut
import Derived.Deep.DeepHandedRow
import Derived.Deep.Slices
import Derived.LaidHandle
import Derived.LaidLaws
import Derived.SizedLaws
namespace Go.Proofs.YtelhfdhgcojmlaaDoor
open Go.ChangeShapes Go.WideShapes Go.ChangeAt Go.RowKit
theorem own : ownKnob Tryd.prog.godebug = none := by kernel_rfl
theorem et : Tryd.prog.globalNamed "errors.errorType" = some 0 := by kernel_rfl
theorem rt : (Tryd.prog.cutTypes.find? (·.1 == "internal/reflectlite.rtype")).map (·.2) = some 80 := by kernel_rfl
theorem oneRow : ((List.range 123).filter fun t => Tryd.prog.rowNamed t [101, 114, 114, 111, 114]) = [45] := by kernel_rfl
theorem tsize : Tryd.prog.types.size = 123 := by kernel_rfl
theorem laidOut : laidOutB Tryd.prog = true := by kernel_rfl
theorem glo_of_laid {W : World} (h : laidMetH Tryd.prog [("errors.errorType", Rows.laid_errors_errorType)] W) : Glo W := by
  have h' : laidMet Tryd.prog [] W ∧ handlesMet Tryd.prog [("errors.errorType", Rows.laid_errors_errorType)] W := h
  obtain ⟨name, u, ty, e1, e2, e3, e4, e5⟩ := h'.2 _ (List.mem_singleton.2 rfl)
  have en : name = [101, 114, 114, 111, 114] := (Option.some.inj e1).symm
  subst en
  obtain rfl := Option.some.inj (rt.symm.trans e2)
  have hm : ty ∈ (List.range 123).filter fun t => Tryd.prog.rowNamed t [101, 114, 114, 111, 114] := List.mem_filter.2 ⟨List.mem_range.2 (by rw [← tsize]; exact e3), e4⟩
  rw [oneRow] at hm
  obtain rfl := List.mem_singleton.1 hm
  have hh : typeHandle Tryd.prog 45 = .pointer (some ⟨1, 45, none⟩) := by kernel_rfl
  rw [hh] at e5
  exact (by simpa using World.var?_cell et e5 0 : W.cell? ⟨0, 0, none⟩ = _)
/-- the variable's cell laid into a world's first block -/
def layGlo (w : World) : World :=
  { w with heap := w.heap.modify 0 fun
      | .cells _ t frozen => .cells #[.iface 80 (.agg #[.pointer (some ⟨1, 45, none⟩)])] t frozen
      | o => o }
theorem cells38 : Tryd.prog.cellsOf 38 = 3 := by kernel_rfl
theorem cells4 : Tryd.prog.cellsOf 4 = 1 := by kernel_rfl
theorem cells2 : Tryd.prog.cellsOf 2 = 1 := by kernel_rfl
theorem cells9 : Tryd.prog.cellsOf 9 = 1 := by kernel_rfl
theorem bytes38 : Tryd.prog.bytesOf 38 = 32 := by kernel_rfl
theorem three {α : Type} {l : List α} (h : l.length = 3) : ∃ a b c, l = [a, b, c] := by
  match l, h with
  | [a, b, c], _ => exact ⟨a, b, c, rfl⟩
theorem wf_fits {n : Int} {t : Bool} {s : ByteArray} (hw : (Lit.int .i64 n).wf = true) : fits ⟨t, n, s⟩ := by
  have h : (decide (IntKind.i64.min ≤ n) && decide (n ≤ IntKind.i64.max)) = true := hw
  rw [Bool.and_eq_true] at h
  have h1 : (-9223372036854775808 : Int) ≤ n := of_decide_eq_true h.1
  have h2 : n ≤ (9223372036854775807 : Int) := of_decide_eq_true h.2
  exact ⟨h1, by show n < (9223372036854775808 : Int); omega⟩
theorem open_items {H : Type} {enc : TypeId × Value → H} {W : World} {fuel len cap : Nat} {a : Option Addr} {x : DataW H × List MemPlace} {cs : List Value} (h : DataW.trod enc Tryd.prog W 0 (fun _ => true) true fuel 22 cs = some x) (hcs0 : cs = [.slice a len cap]) :
    ∃ l : List It, l.length = len ∧ Lst W (.slice a len cap) l ∧ (∀ y ∈ l, fits y) ∧ ((x.1 = .nil ∧ len = 0) ∨ ∃ el sp, x.1 = .slice el sp ∧ el.length = len) := by
  subst hcs0
  rcases Deep.open_slice Tryd.underlying22 h with ⟨hcs, rfl⟩ | ⟨a', len', cap', m, n, D, Pl, hcs, hb, hl, hm, hmm, rfl, hx⟩
  · simp at hcs
    obtain ⟨rfl, rfl, rfl⟩ := hcs
    exact ⟨[], rfl, ⟨none, 0, 0, 0, rfl, fun h => absurd h (Nat.lt_irrefl 0), fun i x hx => (by cases hx)⟩, fun y hy => (by cases hy), .inl ⟨rfl, rfl⟩⟩
  · simp at hcs
    obtain ⟨rfl, rfl, rfl⟩ := hcs
    simp only [if_true] at hmm
    subst hmm
    rw [cells38] at hx
    have each : ∀ i, i < len → ∃ y : It, W.cell? (a'.add (i * 3)) = some (.bool y.t) ∧ W.cell? (a'.add (i * 3 + 1)) = some (.int .i64 y.n) ∧ W.cell? (a'.add (i * 3 + 2)) = some (.string y.s) ∧ fits y := fun i hi => by
      obtain ⟨cs', h1, h2⟩ := hx i (by omega)
      obtain ⟨_, hlen, hcell⟩ := World.cells?_some h1
      obtain ⟨xs, k, hk, hxy, _, hxl, hf⟩ := DataW.trod_struct Tryd.underlying38 h2
      obtain ⟨v0, v1, v2, rfl⟩ := three hlen
      obtain ⟨y0, y1, y2, rfl⟩ := three hxl
      have g0 := hf 0 _ rfl
      have g1 := hf 1 _ rfl
      have g2 := hf 2 _ rfl
      have g0' : DataW.trod enc Tryd.prog W 0 (fun _ => true) true k 4 [v0] = some y0 := by simpa [cells4] using g0
      have g1' : DataW.trod enc Tryd.prog W 0 (fun _ => true) true k 2 [v1] = some y1 := by simpa [cells2] using g1
      have g2' : DataW.trod enc Tryd.prog W 0 (fun _ => true) true k 9 [v2] = some y2 := by simpa [cells9] using g2
      obtain ⟨t, e0, _⟩ := DataW.trod_bool Tryd.underlying4 g0'
      obtain ⟨nn, e1, _, hw⟩ := DataW.trod_int Tryd.underlying2 g1'
      obtain ⟨s, e2, _, _⟩ := DataW.trod_string Tryd.underlying9 g2'
      have d0 := hcell 0 (by omega)
      have d1 := hcell 1 (by omega)
      have d2 := hcell 2 (by omega)
      rw [Deep.add_add] at d0 d1 d2
      injection e0 with e0
      injection e1 with e1
      injection e2 with e2
      subst e0 e1 e2
      exact ⟨⟨t, nn, s⟩, d0, d1, d2, wf_fits hw⟩
    obtain ⟨f, hf⟩ := @Deep.choose_lt It ⟨⟨false, 0, ⟨#[]⟩⟩⟩ _ _ each
    refine ⟨(List.range len).map f, by simp, ?_, ?_, .inr ⟨_, _, rfl, by simp⟩⟩
    · by_cases hl0 : len = 0
      · subst hl0
        exact ⟨some a', 0, 0, m, rfl, fun h => absurd h (Nat.lt_irrefl 0), fun i x hx => by cases hx⟩
      · obtain ⟨b, off, spot⟩ := a'
        have hspot : spot = none := by simpa [Addr.add] using World.cell?_spot (hf 0 (by omega)).1
        subst hspot
        have hbW : b < W.heap.size := World.block_lt_of_cell? W _ (by have := (hf 0 (by omega)).1; rwa [Addr.add_mid] at this)
        refine ⟨some ⟨b, off, none⟩, b, off, m, by simp, fun _ => ⟨hbW, rfl⟩, fun i y hy => ?_⟩
        have hi : i < len := by have := (List.getElem?_eq_some_iff.1 hy).1; simpa using this
        have hfy : f i = y := by simpa [hi] using hy
        obtain ⟨q0, q1, q2, _⟩ := hf i hi
        rw [Addr.add_mid] at q0 q1 q2
        rw [hfy] at q0 q1 q2
        exact ⟨q0, by rw [Nat.add_assoc]; exact q1, by rw [Nat.add_assoc]; exact q2⟩
    · intro y hy
      obtain ⟨i, hi, rfl⟩ := List.mem_map.1 hy
      exact (hf i (List.mem_range.1 hi)).2.2.2
end Go.Proofs.YtelhfdhgcojmlaaDoor
