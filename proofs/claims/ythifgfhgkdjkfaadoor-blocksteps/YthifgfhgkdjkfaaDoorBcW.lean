/- block: timers step. -/
import Derived.Test.YthifgfhgkdjkfaaDoorBbW
import Derived.Test.YthifgfhgkdjkfaaDoorBkP
namespace Go.Proofs.YthifgfhgkdjkfaaDoor
open Go.RowKit
set_option maxRecDepth 100000 in
set_option maxHeartbeats 1600000 in
theorem begin_any (g : Nat) (T : TypeId) (x0 x1 x2 x3 x4 x5 : Value) (now : Int) (w : World) (h : Ob w g T #[x0, x1, x2, x3, x4, x5]) : Calls Tryd.prog 71 #[.pointer (some ⟨g, 0, none⟩), .int .i64 now] w fun e w' => e = .returned (.tuple #[]) ∧ Ob w' g T #[x0, x1, x2, x3, .int .i64 now, .bool true] ∧ Below g w w' := by
  have c4 : w.cell? ⟨g, 4, none⟩ = some x4 := h.cell 4 rfl
  have c5 : w.cell? ⟨g, 5, none⟩ = some x5 := h.cell 5 rfl
  have f4 := h.fr 4
  have f5 := h.fr 5
  have HH : Hid (Ob ((w.setCell ⟨g, 4, none⟩ (.int .i64 now)).setCell ⟨g, 5, none⟩ (.bool true)) g T #[x0, x1, x2, x3, .int .i64 now, .bool true] ∧ Below g w ((w.setCell ⟨g, 4, none⟩ (.int .i64 now)).setCell ⟨g, 5, none⟩ (.bool true))) := ⟨(h.set 4 _ rfl).set 5 _ rfl, ((Below.refl g w).setCell (Nat.le_refl g) _).setCell (Nat.le_refl g) _⟩
  clear h
  go_enter Tryd.func71, Tryd.ntmps71
  go_wp2
  exact bodyPost_end (results_none rfl _ _ _) rfl ⟨rfl, HH.out⟩
set_option maxRecDepth 100000 in
set_option maxHeartbeats 1600000 in
theorem elapse_any (g : Nat) (T : TypeId) (x0 x2 x3 x5 : Value) (p s now : Int) (w : World) (hg : Glo w) (h1 : fitB 4 now = true) (h2 : fitB 4 s = true) (h : Ob w g T #[x0, .int .i64 p, x2, x3, .int .i64 s, x5]) : Calls Tryd.prog 75 #[.pointer (some ⟨g, 0, none⟩), .int .i64 now] w fun e w' => e = .returned (.bool (decide (p ≤ goneN now s))) ∧ Ob w' g T #[x0, .int .i64 p, x2, .int .i64 (min (goneN now s) p), .int .i64 s, x5] ∧ Below g w w' := by
  have m1 := two_any 2 4 now s w hg
  rw [gone_two h1 h2] at m1
  have c4 : w.cell? ⟨g, 4, none⟩ = some (.int .i64 s) := h.cell 4 rfl
  have HK : Hid (∀ w1, Below w.heap.size w w1 → Ob w1 g T #[x0, .int .i64 p, x2, x3, .int .i64 s, x5]) := fun w1 hb => h.on hb h.lt
  have HL := hide h.lt
  clear h1 h2 hg h
  generalize goneN now s = G at *
  by_cases h : p ≤ G
  · have e1 : min G p = p := Int.min_eq_right h
    rw [e1, decide_eq_true h]
    have e2 : ∀ (ts : Array TypeId) (t : TypeId) (W : World), (Builtin.min_ ts t #[.int .i64 G, .int .i64 p]).run Tryd.prog W = .ok (.int .i64 p) W := fun ts t W => by rw [run_min_int2]; exact congrArg (fun z => Result.ok (Value.int .i64 z) W) (by split <;> omega)
    clear e1
    have hd := decide_eq_true h
    clear h
    go_enter Tryd.func75, Tryd.ntmps75
    go_wp2_with (first | (go_at_call 76; refine m1.mono ?_; rintro e w1 ⟨rfl, hb1⟩; have HB := hide hb1; clear hb1; have d1 : w1.cell? ⟨g, 1, none⟩ = some (.int .i64 p) := (HK.out w1 HB.out).cell 1 rfl; have d3 : w1.cell? ⟨g, 3, none⟩ = some x3 := (HK.out w1 HB.out).cell 3 rfl; have d4 := (HK.out w1 HB.out).fr 3))
    go_ret
    exact ⟨by first | rfl | (show Ending.returned (.bool (decide (p ≤ G))) = _; rw [hd]), (HK.out w1 HB.out).set 3 _ rfl, (HB.out.mono (Nat.le_of_lt HL.out)).setCell (Nat.le_refl g) _⟩
  · have e1 : min G p = G := Int.min_eq_left (by omega)
    rw [e1, decide_eq_false h]
    have e2 : ∀ (ts : Array TypeId) (t : TypeId) (W : World), (Builtin.min_ ts t #[.int .i64 G, .int .i64 p]).run Tryd.prog W = .ok (.int .i64 G) W := fun ts t W => by rw [run_min_int2]; exact congrArg (fun z => Result.ok (Value.int .i64 z) W) (by split <;> omega)
    clear e1
    have hd := decide_eq_false h
    clear h
    go_enter Tryd.func75, Tryd.ntmps75
    go_wp2_with (first | (go_at_call 76; refine m1.mono ?_; rintro e w1 ⟨rfl, hb1⟩; have HB := hide hb1; clear hb1; have d1 : w1.cell? ⟨g, 1, none⟩ = some (.int .i64 p) := (HK.out w1 HB.out).cell 1 rfl; have d3 : w1.cell? ⟨g, 3, none⟩ = some x3 := (HK.out w1 HB.out).cell 3 rfl; have d4 := (HK.out w1 HB.out).fr 3))
    go_ret
    exact ⟨by first | rfl | (show Ending.returned (.bool (decide (p ≤ G))) = _; rw [hd]), (HK.out w1 HB.out).set 3 _ rfl, (HB.out.mono (Nat.le_of_lt HL.out)).setCell (Nat.le_refl g) _⟩
end Go.Proofs.YthifgfhgkdjkfaaDoor
