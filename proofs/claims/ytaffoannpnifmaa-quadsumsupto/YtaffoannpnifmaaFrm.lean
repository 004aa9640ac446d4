/- Slices of ints, and points, among the arguments, opened. -/
import Derived.Test.YtaffoannpnifmaaRwW
import Derived.WalkKit
import Derived.ProofKit
import Derived.OpenShut
import Derived.Deep.DeepHandedRow
import Derived.Deep.Slices
import Derived.LaidLaws
import Derived.SizedLaws
import Derived.Lib.SmallJoins
namespace Go.Proofs.Ytaffoannpnifmaa
open Go.ChangeShapes Go.WideShapes Go.ChangeAt Go.RowKit
theorem own : ownKnob Try.prog.godebug = none := by kernel_rfl
theorem laidOut : laidOutB Try.prog = true := by kernel_rfl
theorem cells3 : Try.prog.cellsOf 3 = 1 := by kernel_rfl
theorem bytes3 : Try.prog.bytesOf 3 = 8 := by kernel_rfl
theorem cells38 : Try.prog.cellsOf 38 = 2 := by kernel_rfl
theorem wf_int {n : Int} (hw : (Lit.int .i64 n).wf = true) : -9223372036854775808 ≤ n ∧ n ≤ 9223372036854775807 := by
  have h : (decide (IntKind.i64.min ≤ n) && decide (n ≤ IntKind.i64.max)) = true := hw
  rw [Bool.and_eq_true] at h
  exact ⟨of_decide_eq_true h.1, of_decide_eq_true h.2⟩
theorem wf_float {n : Nat} (hw : (Lit.float .f64 n).wf = true) : n < 18446744073709551616 := by
  have h : decide (n < 2 ^ 64) = true := hw
  exact of_decide_eq_true h
theorem open_il {H : Type} {enc : TypeId × Value → H} {W : World} {fuel len cap : Nat} {a : Option Addr} {x : DataW H × List MemPlace} {cs : List Value} (h : DataW.trod enc Try.prog W 0 (fun _ => true) true fuel 42 cs = some x) (hcs0 : cs = [.slice a len cap]) :
    ∃ l : List Int, l.length = len ∧ len ≤ cap ∧ ILst W (.slice a len cap) l ∧ (∀ y ∈ l, -9223372036854775808 ≤ y ∧ y ≤ 9223372036854775807) ∧ ((x.1 = .nil ∧ len = 0) ∨ ∃ el sp, x.1 = .slice el sp ∧ el = l.map fun y => .lit (.int .i64 y)) := by
  subst hcs0
  rcases Deep.open_slice Try.underlying42 h with ⟨hcs, rfl⟩ | ⟨a', len', cap', m, n, D, Pl, hcs, hb, hl, hm, hmm, rfl, hx⟩
  · simp at hcs
    obtain ⟨rfl, rfl, rfl⟩ := hcs
    exact ⟨[], rfl, Nat.le_refl _, ILst.nil _ _, fun y hy => (by cases hy), .inl ⟨rfl, rfl⟩⟩
  · simp at hcs
    obtain ⟨rfl, rfl, rfl⟩ := hcs
    simp only [if_true] at hmm
    subst hmm
    rw [cells3] at hx
    have each : ∀ i, i < len → ∃ y : Int, W.cell? (a'.add (i * 1)) = some (.int .i64 y) ∧ (-9223372036854775808 ≤ y ∧ y ≤ 9223372036854775807) ∧ D i = .lit (.int .i64 y) := fun i hi => by
      obtain ⟨cs', h1, h2⟩ := hx i (by omega)
      obtain ⟨_, hlen, hcell⟩ := World.cells?_some h1
      obtain ⟨v0, rfl⟩ : ∃ v0, cs' = [v0] := by
        match cs', hlen with
        | [v0], _ => exact ⟨v0, rfl⟩
      obtain ⟨z0, e0, E0, hw⟩ := DataW.trod_int Try.underlying3 h2
      have d0 := hcell 0 (by omega)
      rw [Deep.add_add] at d0
      injection e0 with e0
      subst e0
      exact ⟨z0, d0, wf_int hw, congrArg Prod.fst E0⟩
    obtain ⟨f, hf⟩ := @Deep.choose_lt Int ⟨0⟩ _ _ each
    refine ⟨(List.range len).map f, by simp, hl, ?_, ?_, .inr ⟨_, _, rfl, ?_⟩⟩
    · by_cases hl0 : len = 0
      · subst hl0
        exact ⟨some a', 0, 0, m, rfl, fun h => absurd h (Nat.lt_irrefl 0), fun i x hx => by cases hx⟩
      · obtain ⟨b, off, spot⟩ := a'
        have hspot : spot = none := by simpa [Addr.add] using World.cell?_spot (hf 0 (by omega)).1
        subst hspot
        have hbW : b < W.heap.size := World.block_lt_of_cell? W _ (by have := (hf 0 (by omega)).1; rwa [add_at] at this)
        refine ⟨some ⟨b, off, none⟩, b, off, m, by simp, fun _ => ⟨hbW, rfl⟩, fun i y hy => ?_⟩
        have hi : i < len := by have := (List.getElem?_eq_some_iff.1 hy).1; simpa using this
        have hfy : f i = y := by simpa [hi] using hy
        have q0 := (hf i hi).1
        rw [add_at, Nat.mul_one, hfy] at q0
        exact q0
    · intro y hy
      obtain ⟨i, hi, rfl⟩ := List.mem_map.1 hy
      exact (hf i (List.mem_range.1 hi)).2.1
    · rw [List.map_map]
      exact List.map_congr_left fun i hi => (hf i (List.mem_range.1 hi)).2.2
theorem open_pt {H : Type} {enc : TypeId × Value → H} {W : World} {base : Nat} {spare : Nat → Bool} {held : Bool} {r : Reach} {b0 : Nat} {v : Value} {d : DataW H} {ps : List MemPlace} (hv : Value.okWide Try.prog W r b0 38 v) (h : DataW.Trod enc Try.prog W base spare held 38 v d ps) :
    ∃ a b, v = .agg #[.float .f64 a, .float .f64 b] ∧ d = .agg [.lit (.float .f64 a), .lit (.float .f64 b)] ∧ ps = [] ∧ (Lit.float .f64 a).wf = true ∧ (Lit.float .f64 b).wf = true := by
  obtain ⟨c0, c1, y0, y1, m, rfl, rfl, rfl, hy0, hy1⟩ := Joins.open_agg2 Try.underlying38 (by kernel_rfl) cells38 hv h
  have each : ∀ {c : Value} {y : DataW H × List MemPlace}, DataW.trod enc Try.prog W base spare held m 30 [c] = some y → ∃ b, c = .float .f64 b ∧ y = (.lit (.float .f64 b), []) ∧ (Lit.float .f64 b).wf = true := fun {c y} hy => by
    cases m with
    | zero => simp [DataW.trod] at hy
    | succ n =>
      simp only [DataW.trod, Try.underlying30] at hy
      cases c <;> simp at hy
      obtain ⟨⟨rfl, hw⟩, rfl⟩ := hy
      exact ⟨_, rfl, rfl, hw⟩
  obtain ⟨a, rfl, rfl, wa⟩ := each hy0
  obtain ⟨b, rfl, rfl, wb⟩ := each hy1
  exact ⟨a, b, rfl, rfl, rfl, wa, wb⟩
theorem shut_pt {H : Type} {enc : TypeId × Value → H} {W : World} {base : Nat} {spare : Nat → Bool} {held : Bool} {a b : Nat} (wa : (Lit.float .f64 a).wf = true) (wb : (Lit.float .f64 b).wf = true) :
    DataW.Trod enc Try.prog W base spare held 38 (.agg #[.float .f64 a, .float .f64 b]) (.agg [.lit (.float .f64 a), .lit (.float .f64 b)]) [] :=
  Joins.shut_agg2 (y0 := (.lit (.float .f64 a), [])) (y1 := (.lit (.float .f64 b), [])) Try.underlying38 (by kernel_rfl) cells38 ⟨1, by simp [DataW.trod, Try.underlying30, wa]⟩ ⟨1, by simp [DataW.trod, Try.underlying30, wb]⟩
end Go.Proofs.Ytaffoannpnifmaa
