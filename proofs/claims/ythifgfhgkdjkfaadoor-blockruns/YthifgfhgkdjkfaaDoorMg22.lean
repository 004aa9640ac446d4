/- The document's counter. | The document's coder. -/
import Derived.Test.YthifgfhgkdjkfaaDoorMg17
import Derived.Test.YthifgfhgkdjkfaaDoorMg12
namespace Go.Proofs.YthifgfhgkdjkfaaDoor
open Go.RowKit
set_option maxRecDepth 100000 in
set_option maxHeartbeats 9600000 in
theorem rctu (g cap : Nat) (t : Cn) (w : World) (hv : -32768 ≤ t.v ∧ t.v ≤ 32767) (h : Rw w g t.ls) : Calls Tryd.prog 26 #[.int .i64 4, .slice (some ⟨g, 0, none⟩) 6 cap] w fun e w' => e = .returned (.tuple #[]) ∧ Rw w' g (ctuT t).ls ∧ Below g w w' := by
  obtain ⟨c, b, p, q, v, m⟩ := t
  change -32768 ≤ v ∧ v ≤ 32767 at hv
  obtain ⟨v1, v2⟩ := hv
  have mf := flag12
  cases c <;> cases b <;> cases m
  · have H : Hid (Rw w g [0, 0, p, flagN q, v, 0]) := h
    have E : (ctuT ⟨false, false, p, q, v, false⟩).ls = [0, 0, p, flagN (decide (p ≤ v)), v, 0] := by simp [ctuT, ctuV, Cn.ls, flagN]
    rw [E]
    clear E h
    have c0 : w.cell? ⟨g, 0, none⟩ = some (.int .i64 (0)) := H.out.cell 0 rfl
    have f0 := H.out.fr 0
    have c1 : w.cell? ⟨g, 1, none⟩ = some (.int .i64 (0)) := H.out.cell 1 rfl
    have f1 := H.out.fr 1
    have c2 : w.cell? ⟨g, 2, none⟩ = some (.int .i64 (p)) := H.out.cell 2 rfl
    have f2 := H.out.fr 2
    have c3 : w.cell? ⟨g, 3, none⟩ = some (.int .i64 (flagN q)) := H.out.cell 3 rfl
    have f3 := H.out.fr 3
    have c4 : w.cell? ⟨g, 4, none⟩ = some (.int .i64 (v)) := H.out.cell 4 rfl
    have f4 := H.out.fr 4
    have c5 : w.cell? ⟨g, 5, none⟩ = some (.int .i64 (0)) := H.out.cell 5 rfl
    have f5 := H.out.fr 5
    go_enter Tryd.func26, Tryd.ntmps26
    go_wp2_with (first | (go_at_call 27; refine (mf _ _).mono ?_; rintro e_ w1 ⟨rfl, rfl⟩))
    go_region_with (first | (go_at_call 27; refine (mf _ _).mono ?_; rintro e_ w1 ⟨rfl, rfl⟩))
    all_goals go_wp2
    all_goals
      first | refine bodyPost_end (results_none rfl _ _ _) rfl ⟨rfl, ?_, ?_⟩ | refine bodyPost_ret (results_none rfl _ _ _) rfl ⟨rfl, ?_, ?_⟩
      · (repeat (first | exact H.out | apply Rw.set)) <;> rfl
      · repeat (first | exact (Below.refl g _) | refine Below.setCell ?_ (Nat.le_refl g) _ | refine Below.drew ?_)
  · have H : Hid (Rw w g [0, 0, p, flagN q, v, 1]) := h
    have E : (ctuT ⟨false, false, p, q, v, true⟩).ls = [0, 0, p, flagN (decide (p ≤ v)), v, 0] := by simp [ctuT, ctuV, Cn.ls, flagN]
    rw [E]
    clear E h
    have c0 : w.cell? ⟨g, 0, none⟩ = some (.int .i64 (0)) := H.out.cell 0 rfl
    have f0 := H.out.fr 0
    have c1 : w.cell? ⟨g, 1, none⟩ = some (.int .i64 (0)) := H.out.cell 1 rfl
    have f1 := H.out.fr 1
    have c2 : w.cell? ⟨g, 2, none⟩ = some (.int .i64 (p)) := H.out.cell 2 rfl
    have f2 := H.out.fr 2
    have c3 : w.cell? ⟨g, 3, none⟩ = some (.int .i64 (flagN q)) := H.out.cell 3 rfl
    have f3 := H.out.fr 3
    have c4 : w.cell? ⟨g, 4, none⟩ = some (.int .i64 (v)) := H.out.cell 4 rfl
    have f4 := H.out.fr 4
    have c5 : w.cell? ⟨g, 5, none⟩ = some (.int .i64 (1)) := H.out.cell 5 rfl
    have f5 := H.out.fr 5
    go_enter Tryd.func26, Tryd.ntmps26
    go_wp2_with (first | (go_at_call 27; refine (mf _ _).mono ?_; rintro e_ w1 ⟨rfl, rfl⟩))
    go_region_with (first | (go_at_call 27; refine (mf _ _).mono ?_; rintro e_ w1 ⟨rfl, rfl⟩))
    all_goals go_wp2
    all_goals
      first | refine bodyPost_end (results_none rfl _ _ _) rfl ⟨rfl, ?_, ?_⟩ | refine bodyPost_ret (results_none rfl _ _ _) rfl ⟨rfl, ?_, ?_⟩
      · (repeat (first | exact H.out | apply Rw.set)) <;> rfl
      · repeat (first | exact (Below.refl g _) | refine Below.setCell ?_ (Nat.le_refl g) _ | refine Below.drew ?_)
  · have H : Hid (Rw w g [0, 1, p, flagN q, v, 0]) := h
    have E : (ctuT ⟨false, true, p, q, v, false⟩).ls = [0, 1, p, flagN (decide (p ≤ 0)), 0, 0] := by simp [ctuT, ctuV, Cn.ls, flagN]
    rw [E]
    clear E h
    have c0 : w.cell? ⟨g, 0, none⟩ = some (.int .i64 (0)) := H.out.cell 0 rfl
    have f0 := H.out.fr 0
    have c1 : w.cell? ⟨g, 1, none⟩ = some (.int .i64 (1)) := H.out.cell 1 rfl
    have f1 := H.out.fr 1
    have c2 : w.cell? ⟨g, 2, none⟩ = some (.int .i64 (p)) := H.out.cell 2 rfl
    have f2 := H.out.fr 2
    have c3 : w.cell? ⟨g, 3, none⟩ = some (.int .i64 (flagN q)) := H.out.cell 3 rfl
    have f3 := H.out.fr 3
    have c4 : w.cell? ⟨g, 4, none⟩ = some (.int .i64 (v)) := H.out.cell 4 rfl
    have f4 := H.out.fr 4
    have c5 : w.cell? ⟨g, 5, none⟩ = some (.int .i64 (0)) := H.out.cell 5 rfl
    have f5 := H.out.fr 5
    go_enter Tryd.func26, Tryd.ntmps26
    go_wp2_with (first | (go_at_call 27; refine (mf _ _).mono ?_; rintro e_ w1 ⟨rfl, rfl⟩))
    go_region_with (first | (go_at_call 27; refine (mf _ _).mono ?_; rintro e_ w1 ⟨rfl, rfl⟩))
    all_goals go_wp2
    all_goals
      first | refine bodyPost_end (results_none rfl _ _ _) rfl ⟨rfl, ?_, ?_⟩ | refine bodyPost_ret (results_none rfl _ _ _) rfl ⟨rfl, ?_, ?_⟩
      · (repeat (first | exact H.out | apply Rw.set)) <;> rfl
      · repeat (first | exact (Below.refl g _) | refine Below.setCell ?_ (Nat.le_refl g) _ | refine Below.drew ?_)
  · have H : Hid (Rw w g [0, 1, p, flagN q, v, 1]) := h
    have E : (ctuT ⟨false, true, p, q, v, true⟩).ls = [0, 1, p, flagN (decide (p ≤ 0)), 0, 0] := by simp [ctuT, ctuV, Cn.ls, flagN]
    rw [E]
    clear E h
    have c0 : w.cell? ⟨g, 0, none⟩ = some (.int .i64 (0)) := H.out.cell 0 rfl
    have f0 := H.out.fr 0
    have c1 : w.cell? ⟨g, 1, none⟩ = some (.int .i64 (1)) := H.out.cell 1 rfl
    have f1 := H.out.fr 1
    have c2 : w.cell? ⟨g, 2, none⟩ = some (.int .i64 (p)) := H.out.cell 2 rfl
    have f2 := H.out.fr 2
    have c3 : w.cell? ⟨g, 3, none⟩ = some (.int .i64 (flagN q)) := H.out.cell 3 rfl
    have f3 := H.out.fr 3
    have c4 : w.cell? ⟨g, 4, none⟩ = some (.int .i64 (v)) := H.out.cell 4 rfl
    have f4 := H.out.fr 4
    have c5 : w.cell? ⟨g, 5, none⟩ = some (.int .i64 (1)) := H.out.cell 5 rfl
    have f5 := H.out.fr 5
    go_enter Tryd.func26, Tryd.ntmps26
    go_wp2_with (first | (go_at_call 27; refine (mf _ _).mono ?_; rintro e_ w1 ⟨rfl, rfl⟩))
    go_region_with (first | (go_at_call 27; refine (mf _ _).mono ?_; rintro e_ w1 ⟨rfl, rfl⟩))
    all_goals go_wp2
    all_goals
      first | refine bodyPost_end (results_none rfl _ _ _) rfl ⟨rfl, ?_, ?_⟩ | refine bodyPost_ret (results_none rfl _ _ _) rfl ⟨rfl, ?_, ?_⟩
      · (repeat (first | exact H.out | apply Rw.set)) <;> rfl
      · repeat (first | exact (Below.refl g _) | refine Below.setCell ?_ (Nat.le_refl g) _ | refine Below.drew ?_)
  · by_cases hl : v < 32767
    · have H : Hid (Rw w g [1, 0, p, flagN q, v, 0]) := h
      have E : (ctuT ⟨true, false, p, q, v, false⟩).ls = [1, 0, p, flagN (decide (p ≤ v + 1)), v + 1, 1] := by simp [ctuT, ctuV, Cn.ls, flagN, hl]
      rw [E]
      clear E h
      have c0 : w.cell? ⟨g, 0, none⟩ = some (.int .i64 (1)) := H.out.cell 0 rfl
      have f0 := H.out.fr 0
      have c1 : w.cell? ⟨g, 1, none⟩ = some (.int .i64 (0)) := H.out.cell 1 rfl
      have f1 := H.out.fr 1
      have c2 : w.cell? ⟨g, 2, none⟩ = some (.int .i64 (p)) := H.out.cell 2 rfl
      have f2 := H.out.fr 2
      have c3 : w.cell? ⟨g, 3, none⟩ = some (.int .i64 (flagN q)) := H.out.cell 3 rfl
      have f3 := H.out.fr 3
      have c4 : w.cell? ⟨g, 4, none⟩ = some (.int .i64 (v)) := H.out.cell 4 rfl
      have f4 := H.out.fr 4
      have c5 : w.cell? ⟨g, 5, none⟩ = some (.int .i64 (0)) := H.out.cell 5 rfl
      have f5 := H.out.fr 5
      go_enter Tryd.func26, Tryd.ntmps26
      go_wp2_with (first | (go_at_call 27; refine (mf _ _).mono ?_; rintro e_ w1 ⟨rfl, rfl⟩))
      go_region_with (first | (go_at_call 27; refine (mf _ _).mono ?_; rintro e_ w1 ⟨rfl, rfl⟩))
      all_goals go_wp2
      all_goals
        first | refine bodyPost_end (results_none rfl _ _ _) rfl ⟨rfl, ?_, ?_⟩ | refine bodyPost_ret (results_none rfl _ _ _) rfl ⟨rfl, ?_, ?_⟩
        · (repeat (first | exact H.out | apply Rw.set)) <;> rfl
        · repeat (first | exact (Below.refl g _) | refine Below.setCell ?_ (Nat.le_refl g) _ | refine Below.drew ?_)
    · have H : Hid (Rw w g [1, 0, p, flagN q, v, 0]) := h
      have E : (ctuT ⟨true, false, p, q, v, false⟩).ls = [1, 0, p, flagN (decide (p ≤ v)), v, 1] := by simp [ctuT, ctuV, Cn.ls, flagN, hl]
      rw [E]
      clear E h
      have c0 : w.cell? ⟨g, 0, none⟩ = some (.int .i64 (1)) := H.out.cell 0 rfl
      have f0 := H.out.fr 0
      have c1 : w.cell? ⟨g, 1, none⟩ = some (.int .i64 (0)) := H.out.cell 1 rfl
      have f1 := H.out.fr 1
      have c2 : w.cell? ⟨g, 2, none⟩ = some (.int .i64 (p)) := H.out.cell 2 rfl
      have f2 := H.out.fr 2
      have c3 : w.cell? ⟨g, 3, none⟩ = some (.int .i64 (flagN q)) := H.out.cell 3 rfl
      have f3 := H.out.fr 3
      have c4 : w.cell? ⟨g, 4, none⟩ = some (.int .i64 (v)) := H.out.cell 4 rfl
      have f4 := H.out.fr 4
      have c5 : w.cell? ⟨g, 5, none⟩ = some (.int .i64 (0)) := H.out.cell 5 rfl
      have f5 := H.out.fr 5
      go_enter Tryd.func26, Tryd.ntmps26
      go_wp2_with (first | (go_at_call 27; refine (mf _ _).mono ?_; rintro e_ w1 ⟨rfl, rfl⟩))
      go_region_with (first | (go_at_call 27; refine (mf _ _).mono ?_; rintro e_ w1 ⟨rfl, rfl⟩))
      all_goals go_wp2
      all_goals
        first | refine bodyPost_end (results_none rfl _ _ _) rfl ⟨rfl, ?_, ?_⟩ | refine bodyPost_ret (results_none rfl _ _ _) rfl ⟨rfl, ?_, ?_⟩
        · (repeat (first | exact H.out | apply Rw.set)) <;> rfl
        · repeat (first | exact (Below.refl g _) | refine Below.setCell ?_ (Nat.le_refl g) _ | refine Below.drew ?_)
  · have H : Hid (Rw w g [1, 0, p, flagN q, v, 1]) := h
    have E : (ctuT ⟨true, false, p, q, v, true⟩).ls = [1, 0, p, flagN (decide (p ≤ v)), v, 1] := by simp [ctuT, ctuV, Cn.ls, flagN]
    rw [E]
    clear E h
    have c0 : w.cell? ⟨g, 0, none⟩ = some (.int .i64 (1)) := H.out.cell 0 rfl
    have f0 := H.out.fr 0
    have c1 : w.cell? ⟨g, 1, none⟩ = some (.int .i64 (0)) := H.out.cell 1 rfl
    have f1 := H.out.fr 1
    have c2 : w.cell? ⟨g, 2, none⟩ = some (.int .i64 (p)) := H.out.cell 2 rfl
    have f2 := H.out.fr 2
    have c3 : w.cell? ⟨g, 3, none⟩ = some (.int .i64 (flagN q)) := H.out.cell 3 rfl
    have f3 := H.out.fr 3
    have c4 : w.cell? ⟨g, 4, none⟩ = some (.int .i64 (v)) := H.out.cell 4 rfl
    have f4 := H.out.fr 4
    have c5 : w.cell? ⟨g, 5, none⟩ = some (.int .i64 (1)) := H.out.cell 5 rfl
    have f5 := H.out.fr 5
    go_enter Tryd.func26, Tryd.ntmps26
    go_wp2_with (first | (go_at_call 27; refine (mf _ _).mono ?_; rintro e_ w1 ⟨rfl, rfl⟩))
    go_region_with (first | (go_at_call 27; refine (mf _ _).mono ?_; rintro e_ w1 ⟨rfl, rfl⟩))
    all_goals go_wp2
    all_goals
      first | refine bodyPost_end (results_none rfl _ _ _) rfl ⟨rfl, ?_, ?_⟩ | refine bodyPost_ret (results_none rfl _ _ _) rfl ⟨rfl, ?_, ?_⟩
      · (repeat (first | exact H.out | apply Rw.set)) <;> rfl
      · repeat (first | exact (Below.refl g _) | refine Below.setCell ?_ (Nat.le_refl g) _ | refine Below.drew ?_)
  · have H : Hid (Rw w g [1, 1, p, flagN q, v, 0]) := h
    have E : (ctuT ⟨true, true, p, q, v, false⟩).ls = [1, 1, p, flagN (decide (p ≤ 0)), 0, 1] := by simp [ctuT, ctuV, Cn.ls, flagN]
    rw [E]
    clear E h
    have c0 : w.cell? ⟨g, 0, none⟩ = some (.int .i64 (1)) := H.out.cell 0 rfl
    have f0 := H.out.fr 0
    have c1 : w.cell? ⟨g, 1, none⟩ = some (.int .i64 (1)) := H.out.cell 1 rfl
    have f1 := H.out.fr 1
    have c2 : w.cell? ⟨g, 2, none⟩ = some (.int .i64 (p)) := H.out.cell 2 rfl
    have f2 := H.out.fr 2
    have c3 : w.cell? ⟨g, 3, none⟩ = some (.int .i64 (flagN q)) := H.out.cell 3 rfl
    have f3 := H.out.fr 3
    have c4 : w.cell? ⟨g, 4, none⟩ = some (.int .i64 (v)) := H.out.cell 4 rfl
    have f4 := H.out.fr 4
    have c5 : w.cell? ⟨g, 5, none⟩ = some (.int .i64 (0)) := H.out.cell 5 rfl
    have f5 := H.out.fr 5
    go_enter Tryd.func26, Tryd.ntmps26
    go_wp2_with (first | (go_at_call 27; refine (mf _ _).mono ?_; rintro e_ w1 ⟨rfl, rfl⟩))
    go_region_with (first | (go_at_call 27; refine (mf _ _).mono ?_; rintro e_ w1 ⟨rfl, rfl⟩))
    all_goals go_wp2
    all_goals
      first | refine bodyPost_end (results_none rfl _ _ _) rfl ⟨rfl, ?_, ?_⟩ | refine bodyPost_ret (results_none rfl _ _ _) rfl ⟨rfl, ?_, ?_⟩
      · (repeat (first | exact H.out | apply Rw.set)) <;> rfl
      · repeat (first | exact (Below.refl g _) | refine Below.setCell ?_ (Nat.le_refl g) _ | refine Below.drew ?_)
  · have H : Hid (Rw w g [1, 1, p, flagN q, v, 1]) := h
    have E : (ctuT ⟨true, true, p, q, v, true⟩).ls = [1, 1, p, flagN (decide (p ≤ 0)), 0, 1] := by simp [ctuT, ctuV, Cn.ls, flagN]
    rw [E]
    clear E h
    have c0 : w.cell? ⟨g, 0, none⟩ = some (.int .i64 (1)) := H.out.cell 0 rfl
    have f0 := H.out.fr 0
    have c1 : w.cell? ⟨g, 1, none⟩ = some (.int .i64 (1)) := H.out.cell 1 rfl
    have f1 := H.out.fr 1
    have c2 : w.cell? ⟨g, 2, none⟩ = some (.int .i64 (p)) := H.out.cell 2 rfl
    have f2 := H.out.fr 2
    have c3 : w.cell? ⟨g, 3, none⟩ = some (.int .i64 (flagN q)) := H.out.cell 3 rfl
    have f3 := H.out.fr 3
    have c4 : w.cell? ⟨g, 4, none⟩ = some (.int .i64 (v)) := H.out.cell 4 rfl
    have f4 := H.out.fr 4
    have c5 : w.cell? ⟨g, 5, none⟩ = some (.int .i64 (1)) := H.out.cell 5 rfl
    have f5 := H.out.fr 5
    go_enter Tryd.func26, Tryd.ntmps26
    go_wp2_with (first | (go_at_call 27; refine (mf _ _).mono ?_; rintro e_ w1 ⟨rfl, rfl⟩))
    go_region_with (first | (go_at_call 27; refine (mf _ _).mono ?_; rintro e_ w1 ⟨rfl, rfl⟩))
    all_goals go_wp2
    all_goals
      first | refine bodyPost_end (results_none rfl _ _ _) rfl ⟨rfl, ?_, ?_⟩ | refine bodyPost_ret (results_none rfl _ _ _) rfl ⟨rfl, ?_, ?_⟩
      · (repeat (first | exact H.out | apply Rw.set)) <;> rfl
      · repeat (first | exact (Below.refl g _) | refine Below.setCell ?_ (Nat.le_refl g) _ | refine Below.drew ?_)
end Go.Proofs.YthifgfhgkdjkfaaDoor
namespace Go.Proofs.YthifgfhgkdjkfaaDoor
open Go.RowKit
set_option maxRecDepth 100000 in
set_option maxHeartbeats 9600000 in
theorem rcoder (g cap : Nat) (t : Cd) (w : World) (hv : fitB 3 t.v = true) (h : Rw w g t.ls) : Calls Tryd.prog 28 #[.slice (some ⟨g, 0, none⟩) 6 cap] w fun e w' => e = .returned (.tuple #[]) ∧ Rw w' g (cdT t).ls ∧ Below g w w' := by
  obtain ⟨a, b, r, v, er, l⟩ := t
  change fitB 3 v = true at hv
  have mp : ∀ W, Calls Tryd.prog 41 #[.bool (flagN a == 1), .bool (flagN b == 1)] W fun e w' => e = .returned (.int .i64 ((pn a b : Nat) : Int)) ∧ w' = W := fun W => by
    rw [show (flagN a == 1) = a by cases a <;> rfl, show (flagN b == 1) = b by cases b <;> rfl]
    exact refPlace_any a b W
  have hp4 := pn_lt a b
  have hp : ((pn a b : Nat) : Int) ≤ 3 := by omega
  have hp0 : (0 : Int) ≤ ((pn a b : Nat) : Int) := by omega
  have hvr : -2147483648 ≤ v ∧ v ≤ 2147483647 := by
    rw [fit_span] at hv
    simp [tyB] at hv
    omega
  obtain ⟨hv1, hv2⟩ := hvr
  cases r
  · by_cases hl : 1 ≤ l ∧ l ≤ 4
    · have mS := fun W => refStep_any (l - 1) ((pn a b : Nat) : Int) W
      rw [stepV_at hl (pn a b) hp4] at mS
      have hs := stp_small (l - 1).toNat (pn a b)
      obtain ⟨hs1, hs2⟩ := hs
      have E0 : cdT ⟨a, b, false, v, er, l⟩ = lst5 (pn a b) (folT (pn a b) ⟨a, b, false, v, er, l⟩) := by unfold cdT; simp [hl]
      obtain ⟨l1, l4⟩ := hl
      rw [E0]
      cases hj : jmp (l - 1).toNat (pn a b)
      · rw [hj] at mS
        have mW := fun W => wrappedR_any 3 (v + stp (l - 1).toNat (pn a b)) W
        simp only [Bool.false_eq_true, if_false] at mS
        have E : (lst5 (pn a b) (folT (pn a b) ⟨a, b, false, v, er, l⟩)).ls = [flagN a, flagN b, 0, wrN 3 (v + stp (l - 1).toNat (pn a b)), flagN er, ((pn a b : Nat) : Int) + 1] := by simp only [lst5, folT, Cd.ls, hj, Bool.false_eq_true, if_false, show flagN false = 0 from rfl]
        rw [E]
        have H : Hid (Rw w g [flagN a, flagN b, 0, v, flagN er, l]) := h
        clear E E0 h hj hv hp4
        generalize wrN 3 (v + stp (l - 1).toNat (pn a b)) = R at *
        generalize stp (l - 1).toNat (pn a b) = S at *
        generalize ((pn a b : Nat) : Int) = PN at *
        have c0 : w.cell? ⟨g, 0, none⟩ = some (.int .i64 (flagN a)) := H.out.cell 0 rfl
        have f0 := H.out.fr 0
        have c1 : w.cell? ⟨g, 1, none⟩ = some (.int .i64 (flagN b)) := H.out.cell 1 rfl
        have f1 := H.out.fr 1
        have c2 : w.cell? ⟨g, 2, none⟩ = some (.int .i64 (0)) := H.out.cell 2 rfl
        have f2 := H.out.fr 2
        have c3 : w.cell? ⟨g, 3, none⟩ = some (.int .i64 (v)) := H.out.cell 3 rfl
        have f3 := H.out.fr 3
        have c4 : w.cell? ⟨g, 4, none⟩ = some (.int .i64 (flagN er)) := H.out.cell 4 rfl
        have f4 := H.out.fr 4
        have c5 : w.cell? ⟨g, 5, none⟩ = some (.int .i64 (l)) := H.out.cell 5 rfl
        have f5 := H.out.fr 5
        generalize flagN a = FA at *
        generalize flagN b = FB at *
        generalize flagN er = FE at *
        go_enter Tryd.func28, Tryd.ntmps28
        go_wp2_with fail
        go_quiet (first | (go_at_call 41; with_reducible exact Calls.quiet_of_same (mp _)))
        go_wp2_with (first | (go_at_call 42; refine (mS _).mono ?_; rintro e_ w1 ⟨rfl, rfl⟩) | (go_at_call 43; refine (mW _).mono ?_; rintro e_ w1 ⟨rfl, rfl⟩))
        first | refine bodyPost_end (results_none rfl _ _ _) rfl ⟨rfl, ?_, ?_⟩ | refine bodyPost_ret (results_none rfl _ _ _) rfl ⟨rfl, ?_, ?_⟩
        · (repeat (first | exact H.out.drew _ | apply Rw.set)) <;> rfl
        · repeat (first | exact below_drewN (Below.refl g _) _ | refine Below.setCell ?_ (Nat.le_refl g) _ | refine Below.drew ?_)
      · rw [hj] at mS
        have e0 : stp (l - 1).toNat (pn a b) = 0 := stp_jmp _ _ hj
        rw [e0] at mS
        have ev : wrN 3 v = v := wr_fit hv
        have mW := fun W => wrappedR_any 3 v W
        rw [ev] at mW
        simp only [if_true] at mS
        have E : (lst5 (pn a b) (folT (pn a b) ⟨a, b, false, v, er, l⟩)).ls = [flagN a, flagN b, 0, v, 1, ((pn a b : Nat) : Int) + 1] := by simp only [lst5, folT, Cd.ls, hj, if_true, show flagN false = 0 from rfl, show flagN true = 1 from rfl]
        rw [E]
        have H : Hid (Rw w g [flagN a, flagN b, 0, v, flagN er, l]) := h
        clear E E0 h hj hv hp4 hs1 hs2 e0 ev
        generalize ((pn a b : Nat) : Int) = PN at *
        have c0 : w.cell? ⟨g, 0, none⟩ = some (.int .i64 (flagN a)) := H.out.cell 0 rfl
        have f0 := H.out.fr 0
        have c1 : w.cell? ⟨g, 1, none⟩ = some (.int .i64 (flagN b)) := H.out.cell 1 rfl
        have f1 := H.out.fr 1
        have c2 : w.cell? ⟨g, 2, none⟩ = some (.int .i64 (0)) := H.out.cell 2 rfl
        have f2 := H.out.fr 2
        have c3 : w.cell? ⟨g, 3, none⟩ = some (.int .i64 (v)) := H.out.cell 3 rfl
        have f3 := H.out.fr 3
        have c4 : w.cell? ⟨g, 4, none⟩ = some (.int .i64 (flagN er)) := H.out.cell 4 rfl
        have f4 := H.out.fr 4
        have c5 : w.cell? ⟨g, 5, none⟩ = some (.int .i64 (l)) := H.out.cell 5 rfl
        have f5 := H.out.fr 5
        generalize flagN a = FA at *
        generalize flagN b = FB at *
        generalize flagN er = FE at *
        go_enter Tryd.func28, Tryd.ntmps28
        go_wp2_with fail
        go_quiet (first | (go_at_call 41; with_reducible exact Calls.quiet_of_same (mp _)))
        go_wp2_with (first | (go_at_call 42; refine (mS _).mono ?_; rintro e_ w1 ⟨rfl, rfl⟩) | (go_at_call 43; refine (mW _).mono ?_; rintro e_ w1 ⟨rfl, rfl⟩))
        first | refine bodyPost_end (results_none rfl _ _ _) rfl ⟨rfl, ?_, ?_⟩ | refine bodyPost_ret (results_none rfl _ _ _) rfl ⟨rfl, ?_, ?_⟩
        · (repeat (first | exact H.out.drew _ | apply Rw.set)) <;> rfl
        · repeat (first | exact below_drewN (Below.refl g _) _ | refine Below.setCell ?_ (Nat.le_refl g) _ | refine Below.drew ?_)
    · have E : (cdT ⟨a, b, false, v, er, l⟩).ls = [flagN a, flagN b, 0, v, flagN er, ((pn a b : Nat) : Int) + 1] := by unfold cdT; simp [hl, lst5, Cd.ls, flagN]
      rw [E]
      have H : Hid (Rw w g [flagN a, flagN b, 0, v, flagN er, l]) := h
      clear E h hv hp4
      generalize ((pn a b : Nat) : Int) = PN at *
      by_cases l1 : 1 ≤ l
      · have l4 : ¬ l ≤ 4 := fun q => hl ⟨l1, q⟩
        clear hl
        have c0 : w.cell? ⟨g, 0, none⟩ = some (.int .i64 (flagN a)) := H.out.cell 0 rfl
        have f0 := H.out.fr 0
        have c1 : w.cell? ⟨g, 1, none⟩ = some (.int .i64 (flagN b)) := H.out.cell 1 rfl
        have f1 := H.out.fr 1
        have c2 : w.cell? ⟨g, 2, none⟩ = some (.int .i64 (0)) := H.out.cell 2 rfl
        have f2 := H.out.fr 2
        have c3 : w.cell? ⟨g, 3, none⟩ = some (.int .i64 (v)) := H.out.cell 3 rfl
        have f3 := H.out.fr 3
        have c4 : w.cell? ⟨g, 4, none⟩ = some (.int .i64 (flagN er)) := H.out.cell 4 rfl
        have f4 := H.out.fr 4
        have c5 : w.cell? ⟨g, 5, none⟩ = some (.int .i64 (l)) := H.out.cell 5 rfl
        have f5 := H.out.fr 5
        generalize flagN a = FA at *
        generalize flagN b = FB at *
        generalize flagN er = FE at *
        go_enter Tryd.func28, Tryd.ntmps28
        go_wp2_with fail
        go_quiet (first | (go_at_call 41; with_reducible exact Calls.quiet_of_same (mp _)))
        go_wp2_with (fail)
        first | refine bodyPost_end (results_none rfl _ _ _) rfl ⟨rfl, ?_, ?_⟩ | refine bodyPost_ret (results_none rfl _ _ _) rfl ⟨rfl, ?_, ?_⟩
        · (repeat (first | exact H.out.drew _ | apply Rw.set)) <;> rfl
        · repeat (first | exact below_drewN (Below.refl g _) _ | refine Below.setCell ?_ (Nat.le_refl g) _ | refine Below.drew ?_)
      · clear hl
        have c0 : w.cell? ⟨g, 0, none⟩ = some (.int .i64 (flagN a)) := H.out.cell 0 rfl
        have f0 := H.out.fr 0
        have c1 : w.cell? ⟨g, 1, none⟩ = some (.int .i64 (flagN b)) := H.out.cell 1 rfl
        have f1 := H.out.fr 1
        have c2 : w.cell? ⟨g, 2, none⟩ = some (.int .i64 (0)) := H.out.cell 2 rfl
        have f2 := H.out.fr 2
        have c3 : w.cell? ⟨g, 3, none⟩ = some (.int .i64 (v)) := H.out.cell 3 rfl
        have f3 := H.out.fr 3
        have c4 : w.cell? ⟨g, 4, none⟩ = some (.int .i64 (flagN er)) := H.out.cell 4 rfl
        have f4 := H.out.fr 4
        have c5 : w.cell? ⟨g, 5, none⟩ = some (.int .i64 (l)) := H.out.cell 5 rfl
        have f5 := H.out.fr 5
        generalize flagN a = FA at *
        generalize flagN b = FB at *
        generalize flagN er = FE at *
        go_enter Tryd.func28, Tryd.ntmps28
        go_wp2_with fail
        go_quiet (first | (go_at_call 41; with_reducible exact Calls.quiet_of_same (mp _)))
        go_wp2_with (fail)
        first | refine bodyPost_end (results_none rfl _ _ _) rfl ⟨rfl, ?_, ?_⟩ | refine bodyPost_ret (results_none rfl _ _ _) rfl ⟨rfl, ?_, ?_⟩
        · (repeat (first | exact H.out.drew _ | apply Rw.set)) <;> rfl
        · repeat (first | exact below_drewN (Below.refl g _) _ | refine Below.setCell ?_ (Nat.le_refl g) _ | refine Below.drew ?_)
  · have E : (cdT ⟨a, b, true, v, er, l⟩).ls = [flagN a, flagN b, 1, 0, 0, ((pn a b : Nat) : Int) + 1] := by unfold cdT; simp [lst5, Cd.ls, flagN]
    rw [E]
    have H : Hid (Rw w g [flagN a, flagN b, 1, v, flagN er, l]) := h
    clear E h hv hp4
    generalize ((pn a b : Nat) : Int) = PN at *
    have c0 : w.cell? ⟨g, 0, none⟩ = some (.int .i64 (flagN a)) := H.out.cell 0 rfl
    have f0 := H.out.fr 0
    have c1 : w.cell? ⟨g, 1, none⟩ = some (.int .i64 (flagN b)) := H.out.cell 1 rfl
    have f1 := H.out.fr 1
    have c2 : w.cell? ⟨g, 2, none⟩ = some (.int .i64 (1)) := H.out.cell 2 rfl
    have f2 := H.out.fr 2
    have c3 : w.cell? ⟨g, 3, none⟩ = some (.int .i64 (v)) := H.out.cell 3 rfl
    have f3 := H.out.fr 3
    have c4 : w.cell? ⟨g, 4, none⟩ = some (.int .i64 (flagN er)) := H.out.cell 4 rfl
    have f4 := H.out.fr 4
    have c5 : w.cell? ⟨g, 5, none⟩ = some (.int .i64 (l)) := H.out.cell 5 rfl
    have f5 := H.out.fr 5
    generalize flagN a = FA at *
    generalize flagN b = FB at *
    generalize flagN er = FE at *
    go_enter Tryd.func28, Tryd.ntmps28
    go_wp2_with fail
    go_quiet (first | (go_at_call 41; with_reducible exact Calls.quiet_of_same (mp _)))
    go_wp2_with (fail)
    first | refine bodyPost_end (results_none rfl _ _ _) rfl ⟨rfl, ?_, ?_⟩ | refine bodyPost_ret (results_none rfl _ _ _) rfl ⟨rfl, ?_, ?_⟩
    · (repeat (first | exact H.out.drew _ | apply Rw.set)) <;> rfl
    · repeat (first | exact below_drewN (Below.refl g _) _ | refine Below.setCell ?_ (Nat.le_refl g) _ | refine Below.drew ?_)
end Go.Proofs.YthifgfhgkdjkfaaDoor
