/- The walk of QuadTurns. -/
import Derived.Test.YtaffoannpnifmaaWoW
import Derived.Test.YtaffoannpnifmaaOfW
import Derived.Lib.QuietBelow
namespace Go.Proofs.Ytaffoannpnifmaa
open Go.RowKit Go.Sort
attribute [local go_sem] run_store_complex run_store_float unary_neg_float
theorem turn_of (p q : Option Nat) (hp : ∀ n, p = some n → n < 4) (hq : ∀ n, q = some n → n < 4) : stepV (ofV p) (ofV q) = turnV p q := by
  cases p with
  | none => rfl
  | some m =>
    cases q with
    | none => unfold stepV; rw [show isP (ofV none) = false from rfl, Bool.and_false]; rfl
    | some n => unfold stepV turnV ofV; simp only []; rw [isP_of (hp m rfl), isP_of (hq n rfl)]; rfl
theorem refStep_below (m n : Int) (w : World) : Calls Try.prog 16 #[.int .i64 m, .int .i64 n] w fun e w' => e = .returned (.tuple #[.int .i64 (stepV m n).1, .int .i64 (stepV m n).2]) ∧ Below w.heap.size w w' :=
  (refStep_any m n w).mono fun e w' ⟨h, hw⟩ => ⟨h, by rw [hw]; exact Below.refl _ _⟩
set_option maxRecDepth 100000 in
set_option maxHeartbeats 3200000 in
theorem turns_law (a b c d : Nat) (ha : a < 18446744073709551616) (hb : b < 18446744073709551616) (hc : c < 18446744073709551616) (hd : d < 18446744073709551616) (w : World) :
    Calls Try.prog 4 #[.agg #[.float .f64 a, .float .f64 b], .agg #[.float .f64 c, .float .f64 d]] w fun e w' => e = .returned (.bool true) ∧ Below w.heap.size w w' := by
  have mw := fun W => works_any W
  have mt := fun W => turn_any a b c d ha hb hc hd W
  have m1 : Hid (∀ W dd os, Calls Try.prog 19 #[.float .f64 a, .float .f64 b] (grow (redrawn W dd) os) fun e w2 => e = .returned (.int .i64 (ofV (plc a b))) ∧ ∃ q : Regrown, w2 = grow (redrawn W q.d) q.os) := fun W dd os => Calls.regrown_of (of_any a b ha hb _)
  have m2 : Hid (∀ W dd os, Calls Try.prog 19 #[.float .f64 c, .float .f64 d] (grow (redrawn W dd) os) fun e w2 => e = .returned (.int .i64 (ofV (plc c d))) ∧ ∃ q : Regrown, w2 = grow (redrawn W q.d) q.os) := fun W dd os => Calls.regrown_of (of_any c d hc hd _)
  have m3 : Hid (∀ W dd os, Calls Try.prog 16 #[.int .i64 (ofV (plc a b)), .int .i64 (ofV (plc c d))] (grow (redrawn W dd) os) fun e w2 => e = .returned (.tuple #[.int .i64 (stepV (ofV (plc a b)) (ofV (plc c d))).1, .int .i64 (stepV (ofV (plc a b)) (ofV (plc c d))).2]) ∧ ∃ q : Regrown, w2 = grow (redrawn W q.d) q.os) := fun W dd os => Calls.regrown_of (refStep_below _ _ _)
  rw [turn_of _ _ (fun n h => plc_lt h) (fun n h => plc_lt h)] at m3
  generalize ofV (plc a b) = A at *
  generalize ofV (plc c d) = C at *
  generalize turnV (plc a b) (plc c d) = S at *
  obtain ⟨S1, S2⟩ := S
  clear ha hb hc hd
  have HB0 := hide (two_below w)
  have HC : Hid (∀ w1, Below (w.heap.size + 2) ((w.alloc (.cells #[.float .f64 a, .float .f64 b] 38)).alloc (.cells #[.float .f64 c, .float .f64 d] 38)) w1 → w1.cell? ⟨w.heap.size, 0, none⟩ = some (.float .f64 a) ∧ w1.cell? ⟨w.heap.size, 1, none⟩ = some (.float .f64 b) ∧ w1.cell? ⟨w.heap.size + 1, 0, none⟩ = some (.float .f64 c) ∧ w1.cell? ⟨w.heap.size + 1, 1, none⟩ = some (.float .f64 d)) := fun w1 h => by
    have b0 : w1.heap[w.heap.size]? = some (.cells #[.float .f64 a, .float .f64 b] 38 (0, 0)) := (h.block w.heap.size (by omega)).trans ((heap_alloc_old _ _ (by simp)).trans (heap_alloc_new _ _))
    have b1 : w1.heap[w.heap.size + 1]? = some (.cells #[.float .f64 c, .float .f64 d] 38 (0, 0)) := (h.block (w.heap.size + 1) (by omega)).trans (heap_alloc2_new _ _ _)
    exact ⟨cell_of_row w1 _ 0 _ _ _ b0, cell_of_row w1 _ 1 _ _ _ b0, cell_of_row w1 _ 0 _ _ _ b1, cell_of_row w1 _ 1 _ _ _ b1⟩
  go_enter Try.func4, Try.ntmps4
  go_wp2_with (first | (go_at_call 18; refine (mt _).mono ?_; rintro e w1 ⟨rfl, hb1⟩))
  have hs0 : ((w.alloc (.cells #[.float .f64 a, .float .f64 b] 38)).alloc (.cells #[.float .f64 c, .float .f64 d] 38)).heap.size = w.heap.size + 2 := by simp
  obtain ⟨c0, c1, c2, c3⟩ := HC.out w1 (hb1.mono (Nat.le_of_eq hs0.symm))
  have HBW := hide ((HB0.out _ _).trans (hb1.mono (by rw [hs0]; omega)))
  clear HC HB0 hb1 hs0
  have y0 : ∀ dd os, (grow (redrawn w1 dd) os).cell? ⟨w.heap.size, 0, none⟩ = some (.float .f64 a) := cell_regrown c0
  have y1 : ∀ dd os, (grow (redrawn w1 dd) os).cell? ⟨w.heap.size, 1, none⟩ = some (.float .f64 b) := cell_regrown c1
  have y2 : ∀ dd os, (grow (redrawn w1 dd) os).cell? ⟨w.heap.size + 1, 0, none⟩ = some (.float .f64 c) := cell_regrown c2
  have y3 : ∀ dd os, (grow (redrawn w1 dd) os).cell? ⟨w.heap.size + 1, 1, none⟩ = some (.float .f64 d) := cell_regrown c3
  have n1 := m1.out w1
  have n2 := m2.out w1
  have n3 := m3.out w1
  clear c0 c1 c2 c3 m1 m2 m3
  have HR : Hid (∀ dd os, Below w1.heap.size w1 (grow (redrawn w1 dd) os)) := fun dd os => below_regrown w1 dd os
  refine wp_region_quiet_below (by kernel_rfl) (by kernel_rfl) ?_
  repeat (go_big_quiet_step (first | (go_at_call 19; first | (with_reducible exact n1 _ _) | (with_reducible exact n2 _ _)) | (go_at_call 16; with_reducible exact n3 _ _)))
  refine wpQuiet_nil ?_
  intro _ hw'
  obtain ⟨⟨dq, osq⟩, hw''⟩ := hw'
  subst hw''
  have HR2 := hide (HR.out dq osq)
  clear y0 y1 y2 y3 n1 n2 n3 mt HR
  generalize grow (redrawn w1 dq) osq = w2 at *
  go_wp2_with (first | (go_at_call 17; refine (mw _).mono ?_; rintro e w3 ⟨rfl, hb3⟩))
  go_ret
  exact ⟨rfl, blw (blw HBW.out HR2.out) hb3⟩
end Go.Proofs.Ytaffoannpnifmaa
