/- The contract of expr.Tokens where Check does not take the parts. -/
import Derived.Test.YtkicbmjjbnblfaaGreatDoorDcA
namespace Go.Proofs.YtkicbmjjbnblfaaGreatDoor
open Go.RowKit
set_option maxRecDepth 100000 in
set_option maxHeartbeats 1600000 in
theorem tokens_bad (v : Value) (x : List Pv) (w : World) (hL : PLst w v x) (hlen : x.length ≤ 4398046510976) (hg : Glo w) (hc : checkP (x.map ptV) ≠ 0) : Calls Tryz.prog 5 #[v] w fun e w' => e = .returned (.tuple #[.slice none 0 0, .int .i64 (checkP (x.map ptV))]) ∧ Below w.heap.size w w' := by
  have c1 := check_any v x w hL hlen hg
  obtain ⟨a, b, off, cap, rfl, _, _⟩ := hL
  obtain ⟨C, hC⟩ : ∃ C, C = checkP (x.map ptV) := ⟨_, rfl⟩
  rw [← hC] at c1 hc ⊢
  have i1 : (C == 0) = false := by rw [beq_eq_false_iff_ne]; exact hc
  generalize x.length = N at *
  clear hC hc hg hlen
  go_enter Tryz.func5, Tryz.ntmps5
  go_wp2_with fail
  refine c1.mono ?_
  rintro e w1 ⟨rfl, hb1⟩
  have B1 := hide hb1
  clear c1 hb1
  go_wp2
  go_ret2
  exact ⟨rfl, B1.out⟩
end Go.Proofs.YtkicbmjjbnblfaaGreatDoor
