/- block: what triggers and latches do. -/
import Derived.Test.YthifgfhgkdjkfaaDoorBcW
namespace Go.Proofs.YthifgfhgkdjkfaaDoor
open Go.RowKit
set_option maxRecDepth 100000 in
set_option maxHeartbeats 1600000 in
theorem rTrig_step (g : Nat) (T : TypeId) (now : Int) (t : Tr) (w : World) (h : Ob w g T t.ob) : Calls Tryd.prog 105 #[.pointer (some ⟨g, 0, none⟩), .int .i64 now] w fun e w' => e = .returned (.tuple #[]) ∧ Ob w' g T (rT t).ob ∧ Below g w w' := by
  obtain ⟨a, b, c⟩ := t
  have H : Hid (Ob w g T #[.bool a, .bool b, .bool c]) := h
  clear h
  cases a <;> cases b <;> cases c
  all_goals
    have c0 := H.out.cell 0 (v := _) rfl
    have c1 := H.out.cell 1 (v := _) rfl
    have c2 := H.out.cell 2 (v := _) rfl
    have f0 := H.out.fr 0
    have f1 := H.out.fr 1
    have f2 := H.out.fr 2
    simp only [List.getElem_toArray, List.getElem_cons_zero, List.getElem_cons_succ] at c0 c1 c2
    go_enter Tryd.func105, Tryd.ntmps105
    go_wp2
    first | exact bodyPost_end (results_none rfl _ _ _) rfl ⟨rfl, ((H.out).set 1 _ rfl).set 2 _ rfl, ((Below.refl g w).setCell (Nat.le_refl g) _).setCell (Nat.le_refl g) _⟩ | exact bodyPost_ret (results_none rfl _ _ _) rfl ⟨rfl, ((H.out).set 1 _ rfl).set 2 _ rfl, ((Below.refl g w).setCell (Nat.le_refl g) _).setCell (Nat.le_refl g) _⟩
set_option maxRecDepth 100000 in
set_option maxHeartbeats 1600000 in
theorem fTrig_step (g : Nat) (T : TypeId) (now : Int) (t : Tr) (w : World) (h : Ob w g T t.ob) : Calls Tryd.prog 106 #[.pointer (some ⟨g, 0, none⟩), .int .i64 now] w fun e w' => e = .returned (.tuple #[]) ∧ Ob w' g T (fT t).ob ∧ Below g w w' := by
  obtain ⟨a, b, c⟩ := t
  have H : Hid (Ob w g T #[.bool a, .bool b, .bool c]) := h
  clear h
  cases a <;> cases b <;> cases c
  all_goals
    have c0 := H.out.cell 0 (v := _) rfl
    have c1 := H.out.cell 1 (v := _) rfl
    have c2 := H.out.cell 2 (v := _) rfl
    have f0 := H.out.fr 0
    have f1 := H.out.fr 1
    have f2 := H.out.fr 2
    simp only [List.getElem_toArray, List.getElem_cons_zero, List.getElem_cons_succ] at c0 c1 c2
    go_enter Tryd.func106, Tryd.ntmps106
    go_wp2
    first | exact bodyPost_end (results_none rfl _ _ _) rfl ⟨rfl, ((H.out).set 1 _ rfl).set 2 _ rfl, ((Below.refl g w).setCell (Nat.le_refl g) _).setCell (Nat.le_refl g) _⟩ | exact bodyPost_ret (results_none rfl _ _ _) rfl ⟨rfl, ((H.out).set 1 _ rfl).set 2 _ rfl, ((Below.refl g w).setCell (Nat.le_refl g) _).setCell (Nat.le_refl g) _⟩
set_option maxRecDepth 100000 in
set_option maxHeartbeats 1600000 in
theorem sr_step (g : Nat) (T : TypeId) (now : Int) (t : Tr) (w : World) (h : Ob w g T t.ob) : Calls Tryd.prog 108 #[.pointer (some ⟨g, 0, none⟩), .int .i64 now] w fun e w' => e = .returned (.tuple #[]) ∧ Ob w' g T (srT t).ob ∧ Below g w w' := by
  obtain ⟨a, b, c⟩ := t
  have H : Hid (Ob w g T #[.bool a, .bool b, .bool c]) := h
  clear h
  cases a <;> cases b <;> cases c
  all_goals
    have c0 := H.out.cell 0 (v := _) rfl
    have c1 := H.out.cell 1 (v := _) rfl
    have c2 := H.out.cell 2 (v := _) rfl
    have f0 := H.out.fr 0
    have f1 := H.out.fr 1
    have f2 := H.out.fr 2
    simp only [List.getElem_toArray, List.getElem_cons_zero, List.getElem_cons_succ] at c0 c1 c2
    go_enter Tryd.func108, Tryd.ntmps108
    go_wp2
    first | exact bodyPost_end (results_none rfl _ _ _) rfl ⟨rfl, (H.out).set 2 _ rfl, (Below.refl g w).setCell (Nat.le_refl g) _⟩ | exact bodyPost_ret (results_none rfl _ _ _) rfl ⟨rfl, (H.out).set 2 _ rfl, (Below.refl g w).setCell (Nat.le_refl g) _⟩
set_option maxRecDepth 100000 in
set_option maxHeartbeats 1600000 in
theorem rs_step (g : Nat) (T : TypeId) (now : Int) (t : Tr) (w : World) (h : Ob w g T t.ob) : Calls Tryd.prog 109 #[.pointer (some ⟨g, 0, none⟩), .int .i64 now] w fun e w' => e = .returned (.tuple #[]) ∧ Ob w' g T (rsT t).ob ∧ Below g w w' := by
  obtain ⟨a, b, c⟩ := t
  have H : Hid (Ob w g T #[.bool a, .bool b, .bool c]) := h
  clear h
  cases a <;> cases b <;> cases c
  all_goals
    have c0 := H.out.cell 0 (v := _) rfl
    have c1 := H.out.cell 1 (v := _) rfl
    have c2 := H.out.cell 2 (v := _) rfl
    have f0 := H.out.fr 0
    have f1 := H.out.fr 1
    have f2 := H.out.fr 2
    simp only [List.getElem_toArray, List.getElem_cons_zero, List.getElem_cons_succ] at c0 c1 c2
    go_enter Tryd.func109, Tryd.ntmps109
    go_wp2
    first | exact bodyPost_end (results_none rfl _ _ _) rfl ⟨rfl, (H.out).set 2 _ rfl, (Below.refl g w).setCell (Nat.le_refl g) _⟩ | exact bodyPost_ret (results_none rfl _ _ _) rfl ⟨rfl, (H.out).set 2 _ rfl, (Below.refl g w).setCell (Nat.le_refl g) _⟩
end Go.Proofs.YthifgfhgkdjkfaaDoor
