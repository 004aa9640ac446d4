/- block: what counters do. | block: what triggers and latches do. -/
import Derived.Test.YthifgfhgkdjkfabDoorMg7
namespace Go.Proofs.YthifgfhgkdjkfabDoor
open Go.RowKit
set_option maxRecDepth 100000 in
set_option maxHeartbeats 1600000 in
theorem rises_any (g : Nat) (T : TypeId) (t : Cn) (w : World) (h : Ob w g T t.ob) : Calls Tryd.prog 66 #[.pointer (some ⟨g, 0, none⟩)] w fun e w' => e = .returned (.bool (t.c && !t.m)) ∧ w' = w := by
  obtain ⟨c, b, p, q, v, m⟩ := t
  have c0 : w.cell? ⟨g, 0, none⟩ = some (.bool c) := h.cell 0 rfl
  have c5 : w.cell? ⟨g, 5, none⟩ = some (.bool m) := h.cell 5 rfl
  clear h
  cases c <;> cases m
  all_goals
    go_enter Tryd.func66, Tryd.ntmps66
    go_wp2
    go_ret
    exact ⟨rfl, rfl⟩
set_option maxRecDepth 100000 in
set_option maxHeartbeats 1600000 in
theorem ctu_step (g : Nat) (T : TypeId) (now : Int) (t : Cn) (w : World) (hv : -32768 ≤ t.v ∧ t.v ≤ 32767) (h : Ob w g T t.ob) : Calls Tryd.prog 67 #[.pointer (some ⟨g, 0, none⟩), .int .i64 now] w fun e w' => e = .returned (.tuple #[]) ∧ Ob w' g T (ctuT t).ob ∧ Below g w w' := by
  have mR := rises_any g T t w h
  obtain ⟨c, b, p, q, v, m⟩ := t
  change -32768 ≤ v ∧ v ≤ 32767 at hv
  obtain ⟨v1, v2⟩ := hv
  change Ob w g T #[.bool c, .bool b, .int .i64 p, .bool q, .int .i64 v, .bool m] at h
  change Calls Tryd.prog 66 _ w fun e w' => e = .returned (.bool (c && !m)) ∧ w' = w at mR
  have H := hide h
  cases b
  · cases hr : (c && !m)
    · rw [hr] at mR
      have E : ctuV ⟨c, false, p, q, v, m⟩ = v := by simp [ctuV, hr]
      change Calls Tryd.prog 67 _ w fun e w' => e = .returned (.tuple #[]) ∧ Ob w' g T #[.bool c, .bool false, .int .i64 p, .bool (decide (p ≤ ctuV ⟨c, false, p, q, v, m⟩)), .int .i64 (ctuV ⟨c, false, p, q, v, m⟩), .bool c] ∧ Below g w w'
      rw [E]
      clear E
      have c0 : w.cell? ⟨g, 0, none⟩ = some (.bool c) := (H.out).cell 0 rfl; have cf0 := (H.out).fr 0; have c1 : w.cell? ⟨g, 1, none⟩ = some (.bool false) := (H.out).cell 1 rfl; have cf1 := (H.out).fr 1; have c2 : w.cell? ⟨g, 2, none⟩ = some (.int .i64 p) := (H.out).cell 2 rfl; have cf2 := (H.out).fr 2; have c3 : w.cell? ⟨g, 3, none⟩ = some (.bool q) := (H.out).cell 3 rfl; have cf3 := (H.out).fr 3; have c4 : w.cell? ⟨g, 4, none⟩ = some (.int .i64 v) := (H.out).cell 4 rfl; have cf4 := (H.out).fr 4; have c5 : w.cell? ⟨g, 5, none⟩ = some (.bool m) := (H.out).cell 5 rfl; have cf5 := (H.out).fr 5
      clear h
      go_enter Tryd.func67, Tryd.ntmps67
      go_wp2_with (first | (go_at_call 66; refine mR.mono ?_; rintro e_ w1 ⟨rfl, rfl⟩))
      go_region
      go_wp2
      first | exact bodyPost_end (results_none rfl _ _ _) rfl ⟨rfl, (H.out.set 5 _ rfl).set 3 _ rfl, (((Below.refl g _).setCell (Nat.le_refl g) _).setCell (Nat.le_refl g) _).drew⟩ | exact bodyPost_ret (results_none rfl _ _ _) rfl ⟨rfl, (H.out.set 5 _ rfl).set 3 _ rfl, (((Below.refl g _).setCell (Nat.le_refl g) _).setCell (Nat.le_refl g) _).drew⟩
    · rw [hr] at mR
      by_cases hl : v < 32767
      · have E : ctuV ⟨c, false, p, q, v, m⟩ = v + 1 := by simp [ctuV, hr, hl]
        change Calls Tryd.prog 67 _ w fun e w' => e = .returned (.tuple #[]) ∧ Ob w' g T #[.bool c, .bool false, .int .i64 p, .bool (decide (p ≤ ctuV ⟨c, false, p, q, v, m⟩)), .int .i64 (ctuV ⟨c, false, p, q, v, m⟩), .bool c] ∧ Below g w w'
        rw [E]
        clear E
        have c0 : w.cell? ⟨g, 0, none⟩ = some (.bool c) := (H.out).cell 0 rfl; have cf0 := (H.out).fr 0; have c1 : w.cell? ⟨g, 1, none⟩ = some (.bool false) := (H.out).cell 1 rfl; have cf1 := (H.out).fr 1; have c2 : w.cell? ⟨g, 2, none⟩ = some (.int .i64 p) := (H.out).cell 2 rfl; have cf2 := (H.out).fr 2; have c3 : w.cell? ⟨g, 3, none⟩ = some (.bool q) := (H.out).cell 3 rfl; have cf3 := (H.out).fr 3; have c4 : w.cell? ⟨g, 4, none⟩ = some (.int .i64 v) := (H.out).cell 4 rfl; have cf4 := (H.out).fr 4; have c5 : w.cell? ⟨g, 5, none⟩ = some (.bool m) := (H.out).cell 5 rfl; have cf5 := (H.out).fr 5
        clear h
        go_enter Tryd.func67, Tryd.ntmps67
        go_wp2_with (first | (go_at_call 66; refine mR.mono ?_; rintro e_ w1 ⟨rfl, rfl⟩))
        go_region
        go_wp2
        first | exact bodyPost_end (results_none rfl _ _ _) rfl ⟨rfl, ((H.out.set 4 _ rfl).set 5 _ rfl).set 3 _ rfl, ((((Below.refl g _).setCell (Nat.le_refl g) _).setCell (Nat.le_refl g) _).setCell (Nat.le_refl g) _).drew⟩ | exact bodyPost_ret (results_none rfl _ _ _) rfl ⟨rfl, ((H.out.set 4 _ rfl).set 5 _ rfl).set 3 _ rfl, ((((Below.refl g _).setCell (Nat.le_refl g) _).setCell (Nat.le_refl g) _).setCell (Nat.le_refl g) _).drew⟩
      · have E : ctuV ⟨c, false, p, q, v, m⟩ = v := by simp [ctuV, hr, hl]
        change Calls Tryd.prog 67 _ w fun e w' => e = .returned (.tuple #[]) ∧ Ob w' g T #[.bool c, .bool false, .int .i64 p, .bool (decide (p ≤ ctuV ⟨c, false, p, q, v, m⟩)), .int .i64 (ctuV ⟨c, false, p, q, v, m⟩), .bool c] ∧ Below g w w'
        rw [E]
        clear E
        have c0 : w.cell? ⟨g, 0, none⟩ = some (.bool c) := (H.out).cell 0 rfl; have cf0 := (H.out).fr 0; have c1 : w.cell? ⟨g, 1, none⟩ = some (.bool false) := (H.out).cell 1 rfl; have cf1 := (H.out).fr 1; have c2 : w.cell? ⟨g, 2, none⟩ = some (.int .i64 p) := (H.out).cell 2 rfl; have cf2 := (H.out).fr 2; have c3 : w.cell? ⟨g, 3, none⟩ = some (.bool q) := (H.out).cell 3 rfl; have cf3 := (H.out).fr 3; have c4 : w.cell? ⟨g, 4, none⟩ = some (.int .i64 v) := (H.out).cell 4 rfl; have cf4 := (H.out).fr 4; have c5 : w.cell? ⟨g, 5, none⟩ = some (.bool m) := (H.out).cell 5 rfl; have cf5 := (H.out).fr 5
        clear h
        go_enter Tryd.func67, Tryd.ntmps67
        go_wp2_with (first | (go_at_call 66; refine mR.mono ?_; rintro e_ w1 ⟨rfl, rfl⟩))
        go_region
        go_wp2
        first | exact bodyPost_end (results_none rfl _ _ _) rfl ⟨rfl, (H.out.set 5 _ rfl).set 3 _ rfl, (((Below.refl g _).setCell (Nat.le_refl g) _).setCell (Nat.le_refl g) _).drew⟩ | exact bodyPost_ret (results_none rfl _ _ _) rfl ⟨rfl, (H.out.set 5 _ rfl).set 3 _ rfl, (((Below.refl g _).setCell (Nat.le_refl g) _).setCell (Nat.le_refl g) _).drew⟩
  · have E : ctuV ⟨c, true, p, q, v, m⟩ = 0 := by simp [ctuV]
    change Calls Tryd.prog 67 _ w fun e w' => e = .returned (.tuple #[]) ∧ Ob w' g T #[.bool c, .bool true, .int .i64 p, .bool (decide (p ≤ ctuV ⟨c, true, p, q, v, m⟩)), .int .i64 (ctuV ⟨c, true, p, q, v, m⟩), .bool c] ∧ Below g w w'
    rw [E]
    clear E
    have c0 : w.cell? ⟨g, 0, none⟩ = some (.bool c) := (H.out).cell 0 rfl; have cf0 := (H.out).fr 0; have c1 : w.cell? ⟨g, 1, none⟩ = some (.bool true) := (H.out).cell 1 rfl; have cf1 := (H.out).fr 1; have c2 : w.cell? ⟨g, 2, none⟩ = some (.int .i64 p) := (H.out).cell 2 rfl; have cf2 := (H.out).fr 2; have c3 : w.cell? ⟨g, 3, none⟩ = some (.bool q) := (H.out).cell 3 rfl; have cf3 := (H.out).fr 3; have c4 : w.cell? ⟨g, 4, none⟩ = some (.int .i64 v) := (H.out).cell 4 rfl; have cf4 := (H.out).fr 4; have c5 : w.cell? ⟨g, 5, none⟩ = some (.bool m) := (H.out).cell 5 rfl; have cf5 := (H.out).fr 5
    clear h
    go_enter Tryd.func67, Tryd.ntmps67
    go_wp2_with (first | (go_at_call 66; refine mR.mono ?_; rintro e_ w1 ⟨rfl, rfl⟩))
    go_region
    go_wp2
    first | exact bodyPost_end (results_none rfl _ _ _) rfl ⟨rfl, ((H.out.set 4 _ rfl).set 5 _ rfl).set 3 _ rfl, ((((Below.refl g _).setCell (Nat.le_refl g) _).setCell (Nat.le_refl g) _).setCell (Nat.le_refl g) _).drew⟩ | exact bodyPost_ret (results_none rfl _ _ _) rfl ⟨rfl, ((H.out.set 4 _ rfl).set 5 _ rfl).set 3 _ rfl, ((((Below.refl g _).setCell (Nat.le_refl g) _).setCell (Nat.le_refl g) _).setCell (Nat.le_refl g) _).drew⟩
set_option maxRecDepth 100000 in
set_option maxHeartbeats 1600000 in
theorem ctd_step (g : Nat) (T : TypeId) (now : Int) (t : Cn) (w : World) (hv : -32768 ≤ t.v ∧ t.v ≤ 32767) (h : Ob w g T t.ob) : Calls Tryd.prog 68 #[.pointer (some ⟨g, 0, none⟩), .int .i64 now] w fun e w' => e = .returned (.tuple #[]) ∧ Ob w' g T (ctdT t).ob ∧ Below g w w' := by
  have mR := rises_any g T t w h
  obtain ⟨c, b, p, q, v, m⟩ := t
  change -32768 ≤ v ∧ v ≤ 32767 at hv
  obtain ⟨v1, v2⟩ := hv
  change Ob w g T #[.bool c, .bool b, .int .i64 p, .bool q, .int .i64 v, .bool m] at h
  change Calls Tryd.prog 66 _ w fun e w' => e = .returned (.bool (c && !m)) ∧ w' = w at mR
  have H := hide h
  cases b
  · cases hr : (c && !m)
    · rw [hr] at mR
      have E : ctdV ⟨c, false, p, q, v, m⟩ = v := by simp [ctdV, hr]
      change Calls Tryd.prog 68 _ w fun e w' => e = .returned (.tuple #[]) ∧ Ob w' g T #[.bool c, .bool false, .int .i64 p, .bool (decide (ctdV ⟨c, false, p, q, v, m⟩ ≤ 0)), .int .i64 (ctdV ⟨c, false, p, q, v, m⟩), .bool c] ∧ Below g w w'
      rw [E]
      clear E
      have c0 : w.cell? ⟨g, 0, none⟩ = some (.bool c) := (H.out).cell 0 rfl; have cf0 := (H.out).fr 0; have c1 : w.cell? ⟨g, 1, none⟩ = some (.bool false) := (H.out).cell 1 rfl; have cf1 := (H.out).fr 1; have c2 : w.cell? ⟨g, 2, none⟩ = some (.int .i64 p) := (H.out).cell 2 rfl; have cf2 := (H.out).fr 2; have c3 : w.cell? ⟨g, 3, none⟩ = some (.bool q) := (H.out).cell 3 rfl; have cf3 := (H.out).fr 3; have c4 : w.cell? ⟨g, 4, none⟩ = some (.int .i64 v) := (H.out).cell 4 rfl; have cf4 := (H.out).fr 4; have c5 : w.cell? ⟨g, 5, none⟩ = some (.bool m) := (H.out).cell 5 rfl; have cf5 := (H.out).fr 5
      clear h
      go_enter Tryd.func68, Tryd.ntmps68
      go_wp2_with (first | (go_at_call 66; refine mR.mono ?_; rintro e_ w1 ⟨rfl, rfl⟩))
      first | exact bodyPost_end (results_none rfl _ _ _) rfl ⟨rfl, (H.out.set 5 _ rfl).set 3 _ rfl, ((Below.refl g _).setCell (Nat.le_refl g) _).setCell (Nat.le_refl g) _⟩ | exact bodyPost_ret (results_none rfl _ _ _) rfl ⟨rfl, (H.out.set 5 _ rfl).set 3 _ rfl, ((Below.refl g _).setCell (Nat.le_refl g) _).setCell (Nat.le_refl g) _⟩
    · rw [hr] at mR
      by_cases hl : -32768 < v
      · have E : ctdV ⟨c, false, p, q, v, m⟩ = v - 1 := by simp [ctdV, hr, hl]
        change Calls Tryd.prog 68 _ w fun e w' => e = .returned (.tuple #[]) ∧ Ob w' g T #[.bool c, .bool false, .int .i64 p, .bool (decide (ctdV ⟨c, false, p, q, v, m⟩ ≤ 0)), .int .i64 (ctdV ⟨c, false, p, q, v, m⟩), .bool c] ∧ Below g w w'
        rw [E]
        clear E
        have c0 : w.cell? ⟨g, 0, none⟩ = some (.bool c) := (H.out).cell 0 rfl; have cf0 := (H.out).fr 0; have c1 : w.cell? ⟨g, 1, none⟩ = some (.bool false) := (H.out).cell 1 rfl; have cf1 := (H.out).fr 1; have c2 : w.cell? ⟨g, 2, none⟩ = some (.int .i64 p) := (H.out).cell 2 rfl; have cf2 := (H.out).fr 2; have c3 : w.cell? ⟨g, 3, none⟩ = some (.bool q) := (H.out).cell 3 rfl; have cf3 := (H.out).fr 3; have c4 : w.cell? ⟨g, 4, none⟩ = some (.int .i64 v) := (H.out).cell 4 rfl; have cf4 := (H.out).fr 4; have c5 : w.cell? ⟨g, 5, none⟩ = some (.bool m) := (H.out).cell 5 rfl; have cf5 := (H.out).fr 5
        clear h
        go_enter Tryd.func68, Tryd.ntmps68
        go_wp2_with (first | (go_at_call 66; refine mR.mono ?_; rintro e_ w1 ⟨rfl, rfl⟩))
        first | exact bodyPost_end (results_none rfl _ _ _) rfl ⟨rfl, ((H.out.set 4 _ rfl).set 5 _ rfl).set 3 _ rfl, (((Below.refl g _).setCell (Nat.le_refl g) _).setCell (Nat.le_refl g) _).setCell (Nat.le_refl g) _⟩ | exact bodyPost_ret (results_none rfl _ _ _) rfl ⟨rfl, ((H.out.set 4 _ rfl).set 5 _ rfl).set 3 _ rfl, (((Below.refl g _).setCell (Nat.le_refl g) _).setCell (Nat.le_refl g) _).setCell (Nat.le_refl g) _⟩
      · have E : ctdV ⟨c, false, p, q, v, m⟩ = v := by simp [ctdV, hr, hl]
        change Calls Tryd.prog 68 _ w fun e w' => e = .returned (.tuple #[]) ∧ Ob w' g T #[.bool c, .bool false, .int .i64 p, .bool (decide (ctdV ⟨c, false, p, q, v, m⟩ ≤ 0)), .int .i64 (ctdV ⟨c, false, p, q, v, m⟩), .bool c] ∧ Below g w w'
        rw [E]
        clear E
        have c0 : w.cell? ⟨g, 0, none⟩ = some (.bool c) := (H.out).cell 0 rfl; have cf0 := (H.out).fr 0; have c1 : w.cell? ⟨g, 1, none⟩ = some (.bool false) := (H.out).cell 1 rfl; have cf1 := (H.out).fr 1; have c2 : w.cell? ⟨g, 2, none⟩ = some (.int .i64 p) := (H.out).cell 2 rfl; have cf2 := (H.out).fr 2; have c3 : w.cell? ⟨g, 3, none⟩ = some (.bool q) := (H.out).cell 3 rfl; have cf3 := (H.out).fr 3; have c4 : w.cell? ⟨g, 4, none⟩ = some (.int .i64 v) := (H.out).cell 4 rfl; have cf4 := (H.out).fr 4; have c5 : w.cell? ⟨g, 5, none⟩ = some (.bool m) := (H.out).cell 5 rfl; have cf5 := (H.out).fr 5
        clear h
        go_enter Tryd.func68, Tryd.ntmps68
        go_wp2_with (first | (go_at_call 66; refine mR.mono ?_; rintro e_ w1 ⟨rfl, rfl⟩))
        first | exact bodyPost_end (results_none rfl _ _ _) rfl ⟨rfl, (H.out.set 5 _ rfl).set 3 _ rfl, ((Below.refl g _).setCell (Nat.le_refl g) _).setCell (Nat.le_refl g) _⟩ | exact bodyPost_ret (results_none rfl _ _ _) rfl ⟨rfl, (H.out.set 5 _ rfl).set 3 _ rfl, ((Below.refl g _).setCell (Nat.le_refl g) _).setCell (Nat.le_refl g) _⟩
  · have E : ctdV ⟨c, true, p, q, v, m⟩ = p := by simp [ctdV]
    change Calls Tryd.prog 68 _ w fun e w' => e = .returned (.tuple #[]) ∧ Ob w' g T #[.bool c, .bool true, .int .i64 p, .bool (decide (ctdV ⟨c, true, p, q, v, m⟩ ≤ 0)), .int .i64 (ctdV ⟨c, true, p, q, v, m⟩), .bool c] ∧ Below g w w'
    rw [E]
    clear E
    have c0 : w.cell? ⟨g, 0, none⟩ = some (.bool c) := (H.out).cell 0 rfl; have cf0 := (H.out).fr 0; have c1 : w.cell? ⟨g, 1, none⟩ = some (.bool true) := (H.out).cell 1 rfl; have cf1 := (H.out).fr 1; have c2 : w.cell? ⟨g, 2, none⟩ = some (.int .i64 p) := (H.out).cell 2 rfl; have cf2 := (H.out).fr 2; have c3 : w.cell? ⟨g, 3, none⟩ = some (.bool q) := (H.out).cell 3 rfl; have cf3 := (H.out).fr 3; have c4 : w.cell? ⟨g, 4, none⟩ = some (.int .i64 v) := (H.out).cell 4 rfl; have cf4 := (H.out).fr 4; have c5 : w.cell? ⟨g, 5, none⟩ = some (.bool m) := (H.out).cell 5 rfl; have cf5 := (H.out).fr 5
    clear h
    go_enter Tryd.func68, Tryd.ntmps68
    go_wp2_with (first | (go_at_call 66; refine mR.mono ?_; rintro e_ w1 ⟨rfl, rfl⟩))
    first | exact bodyPost_end (results_none rfl _ _ _) rfl ⟨rfl, ((H.out.set 4 _ rfl).set 5 _ rfl).set 3 _ rfl, (((Below.refl g _).setCell (Nat.le_refl g) _).setCell (Nat.le_refl g) _).setCell (Nat.le_refl g) _⟩ | exact bodyPost_ret (results_none rfl _ _ _) rfl ⟨rfl, ((H.out.set 4 _ rfl).set 5 _ rfl).set 3 _ rfl, (((Below.refl g _).setCell (Nat.le_refl g) _).setCell (Nat.le_refl g) _).setCell (Nat.le_refl g) _⟩
end Go.Proofs.YthifgfhgkdjkfabDoor
namespace Go.Proofs.YthifgfhgkdjkfabDoor
open Go.RowKit
set_option maxRecDepth 100000 in
set_option maxHeartbeats 1600000 in
theorem rTrig_step (g : Nat) (T : TypeId) (now : Int) (t : Tr) (w : World) (h : Ob w g T t.ob) : Calls Tryd.prog 70 #[.pointer (some ⟨g, 0, none⟩), .int .i64 now] w fun e w' => e = .returned (.tuple #[]) ∧ Ob w' g T (rT t).ob ∧ Below g w w' := by
  obtain ⟨a, b, c⟩ := t
  have H : Hid (Ob w g T #[.bool a, .bool b, .bool c]) := h
  clear h
  cases a <;> cases b <;> cases c
  all_goals
    have c0 := H.out.cell 0 (v := _) rfl
    have c1 := H.out.cell 1 (v := _) rfl
    have c2 := H.out.cell 2 (v := _) rfl
    have f0 := H.out.fr 0
    have f1 := H.out.fr 1
    have f2 := H.out.fr 2
    simp only [List.getElem_toArray, List.getElem_cons_zero, List.getElem_cons_succ] at c0 c1 c2
    go_enter Tryd.func70, Tryd.ntmps70
    go_wp2
    first | exact bodyPost_end (results_none rfl _ _ _) rfl ⟨rfl, ((H.out).set 1 _ rfl).set 2 _ rfl, ((Below.refl g w).setCell (Nat.le_refl g) _).setCell (Nat.le_refl g) _⟩ | exact bodyPost_ret (results_none rfl _ _ _) rfl ⟨rfl, ((H.out).set 1 _ rfl).set 2 _ rfl, ((Below.refl g w).setCell (Nat.le_refl g) _).setCell (Nat.le_refl g) _⟩
set_option maxRecDepth 100000 in
set_option maxHeartbeats 1600000 in
theorem fTrig_step (g : Nat) (T : TypeId) (now : Int) (t : Tr) (w : World) (h : Ob w g T t.ob) : Calls Tryd.prog 71 #[.pointer (some ⟨g, 0, none⟩), .int .i64 now] w fun e w' => e = .returned (.tuple #[]) ∧ Ob w' g T (fT t).ob ∧ Below g w w' := by
  obtain ⟨a, b, c⟩ := t
  have H : Hid (Ob w g T #[.bool a, .bool b, .bool c]) := h
  clear h
  cases a <;> cases b <;> cases c
  all_goals
    have c0 := H.out.cell 0 (v := _) rfl
    have c1 := H.out.cell 1 (v := _) rfl
    have c2 := H.out.cell 2 (v := _) rfl
    have f0 := H.out.fr 0
    have f1 := H.out.fr 1
    have f2 := H.out.fr 2
    simp only [List.getElem_toArray, List.getElem_cons_zero, List.getElem_cons_succ] at c0 c1 c2
    go_enter Tryd.func71, Tryd.ntmps71
    go_wp2
    first | exact bodyPost_end (results_none rfl _ _ _) rfl ⟨rfl, ((H.out).set 1 _ rfl).set 2 _ rfl, ((Below.refl g w).setCell (Nat.le_refl g) _).setCell (Nat.le_refl g) _⟩ | exact bodyPost_ret (results_none rfl _ _ _) rfl ⟨rfl, ((H.out).set 1 _ rfl).set 2 _ rfl, ((Below.refl g w).setCell (Nat.le_refl g) _).setCell (Nat.le_refl g) _⟩
set_option maxRecDepth 100000 in
set_option maxHeartbeats 1600000 in
theorem sr_step (g : Nat) (T : TypeId) (now : Int) (t : Tr) (w : World) (h : Ob w g T t.ob) : Calls Tryd.prog 73 #[.pointer (some ⟨g, 0, none⟩), .int .i64 now] w fun e w' => e = .returned (.tuple #[]) ∧ Ob w' g T (srT t).ob ∧ Below g w w' := by
  obtain ⟨a, b, c⟩ := t
  have H : Hid (Ob w g T #[.bool a, .bool b, .bool c]) := h
  clear h
  cases a <;> cases b <;> cases c
  all_goals
    have c0 := H.out.cell 0 (v := _) rfl
    have c1 := H.out.cell 1 (v := _) rfl
    have c2 := H.out.cell 2 (v := _) rfl
    have f0 := H.out.fr 0
    have f1 := H.out.fr 1
    have f2 := H.out.fr 2
    simp only [List.getElem_toArray, List.getElem_cons_zero, List.getElem_cons_succ] at c0 c1 c2
    go_enter Tryd.func73, Tryd.ntmps73
    go_wp2
    first | exact bodyPost_end (results_none rfl _ _ _) rfl ⟨rfl, (H.out).set 2 _ rfl, (Below.refl g w).setCell (Nat.le_refl g) _⟩ | exact bodyPost_ret (results_none rfl _ _ _) rfl ⟨rfl, (H.out).set 2 _ rfl, (Below.refl g w).setCell (Nat.le_refl g) _⟩
set_option maxRecDepth 100000 in
set_option maxHeartbeats 1600000 in
theorem rs_step (g : Nat) (T : TypeId) (now : Int) (t : Tr) (w : World) (h : Ob w g T t.ob) : Calls Tryd.prog 74 #[.pointer (some ⟨g, 0, none⟩), .int .i64 now] w fun e w' => e = .returned (.tuple #[]) ∧ Ob w' g T (rsT t).ob ∧ Below g w w' := by
  obtain ⟨a, b, c⟩ := t
  have H : Hid (Ob w g T #[.bool a, .bool b, .bool c]) := h
  clear h
  cases a <;> cases b <;> cases c
  all_goals
    have c0 := H.out.cell 0 (v := _) rfl
    have c1 := H.out.cell 1 (v := _) rfl
    have c2 := H.out.cell 2 (v := _) rfl
    have f0 := H.out.fr 0
    have f1 := H.out.fr 1
    have f2 := H.out.fr 2
    simp only [List.getElem_toArray, List.getElem_cons_zero, List.getElem_cons_succ] at c0 c1 c2
    go_enter Tryd.func74, Tryd.ntmps74
    go_wp2
    first | exact bodyPost_end (results_none rfl _ _ _) rfl ⟨rfl, (H.out).set 2 _ rfl, (Below.refl g w).setCell (Nat.le_refl g) _⟩ | exact bodyPost_ret (results_none rfl _ _ _) rfl ⟨rfl, (H.out).set 2 _ rfl, (Below.refl g w).setCell (Nat.le_refl g) _⟩
end Go.Proofs.YthifgfhgkdjkfabDoor
