/- The document's counter. -/
import Derived.Test.YthifgfhgkdjkfaaDoorMg17
namespace Go.Proofs.YthifgfhgkdjkfaaDoor
open Go.RowKit
set_option maxRecDepth 100000 in
set_option maxHeartbeats 9600000 in
theorem rctd (g cap : Nat) (t : Cn) (w : World) (hv : -32768 ≤ t.v ∧ t.v ≤ 32767) (h : Rw w g t.ls) : Calls Tryd.prog 26 #[.int .i64 5, .slice (some ⟨g, 0, none⟩) 6 cap] w fun e w' => e = .returned (.tuple #[]) ∧ Rw w' g (ctdT t).ls ∧ Below g w w' := by
  obtain ⟨c, b, p, q, v, m⟩ := t
  change -32768 ≤ v ∧ v ≤ 32767 at hv
  obtain ⟨v1, v2⟩ := hv
  have mf := flag12
  cases c <;> cases b <;> cases m
  · have H : Hid (Rw w g [0, 0, p, flagN q, v, 0]) := h
    have E : (ctdT ⟨false, false, p, q, v, false⟩).ls = [0, 0, p, flagN (decide (v ≤ 0)), v, 0] := by simp [ctdT, ctdV, Cn.ls, flagN]
    rw [E]
    clear E h
    have c0 : w.cell? ⟨g, 0, none⟩ = some (.int .i64 (0)) := H.out.cell 0 rfl
    have f0 := H.out.fr 0
    have c1 : w.cell? ⟨g, 1, none⟩ = some (.int .i64 (0)) := H.out.cell 1 rfl
    have f1 := H.out.fr 1
    have c2 : w.cell? ⟨g, 2, none⟩ = some (.int .i64 (p)) := H.out.cell 2 rfl
    have f2 := H.out.fr 2
    have c3 : w.cell? ⟨g, 3, none⟩ = some (.int .i64 (flagN q)) := H.out.cell 3 rfl
    have f3 := H.out.fr 3
    have c4 : w.cell? ⟨g, 4, none⟩ = some (.int .i64 (v)) := H.out.cell 4 rfl
    have f4 := H.out.fr 4
    have c5 : w.cell? ⟨g, 5, none⟩ = some (.int .i64 (0)) := H.out.cell 5 rfl
    have f5 := H.out.fr 5
    go_enter Tryd.func26, Tryd.ntmps26
    go_wp2_with (first | (go_at_call 27; refine (mf _ _).mono ?_; rintro e_ w1 ⟨rfl, rfl⟩))
    first | refine bodyPost_end (results_none rfl _ _ _) rfl ⟨rfl, ?_, ?_⟩ | refine bodyPost_ret (results_none rfl _ _ _) rfl ⟨rfl, ?_, ?_⟩
    · (repeat (first | exact H.out | apply Rw.set)) <;> rfl
    · repeat (first | exact Below.refl g _ | refine Below.setCell ?_ (Nat.le_refl g) _)
  · have H : Hid (Rw w g [0, 0, p, flagN q, v, 1]) := h
    have E : (ctdT ⟨false, false, p, q, v, true⟩).ls = [0, 0, p, flagN (decide (v ≤ 0)), v, 0] := by simp [ctdT, ctdV, Cn.ls, flagN]
    rw [E]
    clear E h
    have c0 : w.cell? ⟨g, 0, none⟩ = some (.int .i64 (0)) := H.out.cell 0 rfl
    have f0 := H.out.fr 0
    have c1 : w.cell? ⟨g, 1, none⟩ = some (.int .i64 (0)) := H.out.cell 1 rfl
    have f1 := H.out.fr 1
    have c2 : w.cell? ⟨g, 2, none⟩ = some (.int .i64 (p)) := H.out.cell 2 rfl
    have f2 := H.out.fr 2
    have c3 : w.cell? ⟨g, 3, none⟩ = some (.int .i64 (flagN q)) := H.out.cell 3 rfl
    have f3 := H.out.fr 3
    have c4 : w.cell? ⟨g, 4, none⟩ = some (.int .i64 (v)) := H.out.cell 4 rfl
    have f4 := H.out.fr 4
    have c5 : w.cell? ⟨g, 5, none⟩ = some (.int .i64 (1)) := H.out.cell 5 rfl
    have f5 := H.out.fr 5
    go_enter Tryd.func26, Tryd.ntmps26
    go_wp2_with (first | (go_at_call 27; refine (mf _ _).mono ?_; rintro e_ w1 ⟨rfl, rfl⟩))
    first | refine bodyPost_end (results_none rfl _ _ _) rfl ⟨rfl, ?_, ?_⟩ | refine bodyPost_ret (results_none rfl _ _ _) rfl ⟨rfl, ?_, ?_⟩
    · (repeat (first | exact H.out | apply Rw.set)) <;> rfl
    · repeat (first | exact Below.refl g _ | refine Below.setCell ?_ (Nat.le_refl g) _)
  · have H : Hid (Rw w g [0, 1, p, flagN q, v, 0]) := h
    have E : (ctdT ⟨false, true, p, q, v, false⟩).ls = [0, 1, p, flagN (decide (p ≤ 0)), p, 0] := by simp [ctdT, ctdV, Cn.ls, flagN]
    rw [E]
    clear E h
    have c0 : w.cell? ⟨g, 0, none⟩ = some (.int .i64 (0)) := H.out.cell 0 rfl
    have f0 := H.out.fr 0
    have c1 : w.cell? ⟨g, 1, none⟩ = some (.int .i64 (1)) := H.out.cell 1 rfl
    have f1 := H.out.fr 1
    have c2 : w.cell? ⟨g, 2, none⟩ = some (.int .i64 (p)) := H.out.cell 2 rfl
    have f2 := H.out.fr 2
    have c3 : w.cell? ⟨g, 3, none⟩ = some (.int .i64 (flagN q)) := H.out.cell 3 rfl
    have f3 := H.out.fr 3
    have c4 : w.cell? ⟨g, 4, none⟩ = some (.int .i64 (v)) := H.out.cell 4 rfl
    have f4 := H.out.fr 4
    have c5 : w.cell? ⟨g, 5, none⟩ = some (.int .i64 (0)) := H.out.cell 5 rfl
    have f5 := H.out.fr 5
    go_enter Tryd.func26, Tryd.ntmps26
    go_wp2_with (first | (go_at_call 27; refine (mf _ _).mono ?_; rintro e_ w1 ⟨rfl, rfl⟩))
    first | refine bodyPost_end (results_none rfl _ _ _) rfl ⟨rfl, ?_, ?_⟩ | refine bodyPost_ret (results_none rfl _ _ _) rfl ⟨rfl, ?_, ?_⟩
    · (repeat (first | exact H.out | apply Rw.set)) <;> rfl
    · repeat (first | exact Below.refl g _ | refine Below.setCell ?_ (Nat.le_refl g) _)
  · have H : Hid (Rw w g [0, 1, p, flagN q, v, 1]) := h
    have E : (ctdT ⟨false, true, p, q, v, true⟩).ls = [0, 1, p, flagN (decide (p ≤ 0)), p, 0] := by simp [ctdT, ctdV, Cn.ls, flagN]
    rw [E]
    clear E h
    have c0 : w.cell? ⟨g, 0, none⟩ = some (.int .i64 (0)) := H.out.cell 0 rfl
    have f0 := H.out.fr 0
    have c1 : w.cell? ⟨g, 1, none⟩ = some (.int .i64 (1)) := H.out.cell 1 rfl
    have f1 := H.out.fr 1
    have c2 : w.cell? ⟨g, 2, none⟩ = some (.int .i64 (p)) := H.out.cell 2 rfl
    have f2 := H.out.fr 2
    have c3 : w.cell? ⟨g, 3, none⟩ = some (.int .i64 (flagN q)) := H.out.cell 3 rfl
    have f3 := H.out.fr 3
    have c4 : w.cell? ⟨g, 4, none⟩ = some (.int .i64 (v)) := H.out.cell 4 rfl
    have f4 := H.out.fr 4
    have c5 : w.cell? ⟨g, 5, none⟩ = some (.int .i64 (1)) := H.out.cell 5 rfl
    have f5 := H.out.fr 5
    go_enter Tryd.func26, Tryd.ntmps26
    go_wp2_with (first | (go_at_call 27; refine (mf _ _).mono ?_; rintro e_ w1 ⟨rfl, rfl⟩))
    first | refine bodyPost_end (results_none rfl _ _ _) rfl ⟨rfl, ?_, ?_⟩ | refine bodyPost_ret (results_none rfl _ _ _) rfl ⟨rfl, ?_, ?_⟩
    · (repeat (first | exact H.out | apply Rw.set)) <;> rfl
    · repeat (first | exact Below.refl g _ | refine Below.setCell ?_ (Nat.le_refl g) _)
  · by_cases hl : -32768 < v
    · have H : Hid (Rw w g [1, 0, p, flagN q, v, 0]) := h
      have E : (ctdT ⟨true, false, p, q, v, false⟩).ls = [1, 0, p, flagN (decide (v - 1 ≤ 0)), v - 1, 1] := by simp [ctdT, ctdV, Cn.ls, flagN, hl]
      rw [E]
      clear E h
      have c0 : w.cell? ⟨g, 0, none⟩ = some (.int .i64 (1)) := H.out.cell 0 rfl
      have f0 := H.out.fr 0
      have c1 : w.cell? ⟨g, 1, none⟩ = some (.int .i64 (0)) := H.out.cell 1 rfl
      have f1 := H.out.fr 1
      have c2 : w.cell? ⟨g, 2, none⟩ = some (.int .i64 (p)) := H.out.cell 2 rfl
      have f2 := H.out.fr 2
      have c3 : w.cell? ⟨g, 3, none⟩ = some (.int .i64 (flagN q)) := H.out.cell 3 rfl
      have f3 := H.out.fr 3
      have c4 : w.cell? ⟨g, 4, none⟩ = some (.int .i64 (v)) := H.out.cell 4 rfl
      have f4 := H.out.fr 4
      have c5 : w.cell? ⟨g, 5, none⟩ = some (.int .i64 (0)) := H.out.cell 5 rfl
      have f5 := H.out.fr 5
      go_enter Tryd.func26, Tryd.ntmps26
      go_wp2_with (first | (go_at_call 27; refine (mf _ _).mono ?_; rintro e_ w1 ⟨rfl, rfl⟩))
      first | refine bodyPost_end (results_none rfl _ _ _) rfl ⟨rfl, ?_, ?_⟩ | refine bodyPost_ret (results_none rfl _ _ _) rfl ⟨rfl, ?_, ?_⟩
      · (repeat (first | exact H.out | apply Rw.set)) <;> rfl
      · repeat (first | exact Below.refl g _ | refine Below.setCell ?_ (Nat.le_refl g) _)
    · have H : Hid (Rw w g [1, 0, p, flagN q, v, 0]) := h
      have E : (ctdT ⟨true, false, p, q, v, false⟩).ls = [1, 0, p, flagN (decide (v ≤ 0)), v, 1] := by simp [ctdT, ctdV, Cn.ls, flagN, hl]
      rw [E]
      clear E h
      have c0 : w.cell? ⟨g, 0, none⟩ = some (.int .i64 (1)) := H.out.cell 0 rfl
      have f0 := H.out.fr 0
      have c1 : w.cell? ⟨g, 1, none⟩ = some (.int .i64 (0)) := H.out.cell 1 rfl
      have f1 := H.out.fr 1
      have c2 : w.cell? ⟨g, 2, none⟩ = some (.int .i64 (p)) := H.out.cell 2 rfl
      have f2 := H.out.fr 2
      have c3 : w.cell? ⟨g, 3, none⟩ = some (.int .i64 (flagN q)) := H.out.cell 3 rfl
      have f3 := H.out.fr 3
      have c4 : w.cell? ⟨g, 4, none⟩ = some (.int .i64 (v)) := H.out.cell 4 rfl
      have f4 := H.out.fr 4
      have c5 : w.cell? ⟨g, 5, none⟩ = some (.int .i64 (0)) := H.out.cell 5 rfl
      have f5 := H.out.fr 5
      go_enter Tryd.func26, Tryd.ntmps26
      go_wp2_with (first | (go_at_call 27; refine (mf _ _).mono ?_; rintro e_ w1 ⟨rfl, rfl⟩))
      first | refine bodyPost_end (results_none rfl _ _ _) rfl ⟨rfl, ?_, ?_⟩ | refine bodyPost_ret (results_none rfl _ _ _) rfl ⟨rfl, ?_, ?_⟩
      · (repeat (first | exact H.out | apply Rw.set)) <;> rfl
      · repeat (first | exact Below.refl g _ | refine Below.setCell ?_ (Nat.le_refl g) _)
  · have H : Hid (Rw w g [1, 0, p, flagN q, v, 1]) := h
    have E : (ctdT ⟨true, false, p, q, v, true⟩).ls = [1, 0, p, flagN (decide (v ≤ 0)), v, 1] := by simp [ctdT, ctdV, Cn.ls, flagN]
    rw [E]
    clear E h
    have c0 : w.cell? ⟨g, 0, none⟩ = some (.int .i64 (1)) := H.out.cell 0 rfl
    have f0 := H.out.fr 0
    have c1 : w.cell? ⟨g, 1, none⟩ = some (.int .i64 (0)) := H.out.cell 1 rfl
    have f1 := H.out.fr 1
    have c2 : w.cell? ⟨g, 2, none⟩ = some (.int .i64 (p)) := H.out.cell 2 rfl
    have f2 := H.out.fr 2
    have c3 : w.cell? ⟨g, 3, none⟩ = some (.int .i64 (flagN q)) := H.out.cell 3 rfl
    have f3 := H.out.fr 3
    have c4 : w.cell? ⟨g, 4, none⟩ = some (.int .i64 (v)) := H.out.cell 4 rfl
    have f4 := H.out.fr 4
    have c5 : w.cell? ⟨g, 5, none⟩ = some (.int .i64 (1)) := H.out.cell 5 rfl
    have f5 := H.out.fr 5
    go_enter Tryd.func26, Tryd.ntmps26
    go_wp2_with (first | (go_at_call 27; refine (mf _ _).mono ?_; rintro e_ w1 ⟨rfl, rfl⟩))
    first | refine bodyPost_end (results_none rfl _ _ _) rfl ⟨rfl, ?_, ?_⟩ | refine bodyPost_ret (results_none rfl _ _ _) rfl ⟨rfl, ?_, ?_⟩
    · (repeat (first | exact H.out | apply Rw.set)) <;> rfl
    · repeat (first | exact Below.refl g _ | refine Below.setCell ?_ (Nat.le_refl g) _)
  · have H : Hid (Rw w g [1, 1, p, flagN q, v, 0]) := h
    have E : (ctdT ⟨true, true, p, q, v, false⟩).ls = [1, 1, p, flagN (decide (p ≤ 0)), p, 1] := by simp [ctdT, ctdV, Cn.ls, flagN]
    rw [E]
    clear E h
    have c0 : w.cell? ⟨g, 0, none⟩ = some (.int .i64 (1)) := H.out.cell 0 rfl
    have f0 := H.out.fr 0
    have c1 : w.cell? ⟨g, 1, none⟩ = some (.int .i64 (1)) := H.out.cell 1 rfl
    have f1 := H.out.fr 1
    have c2 : w.cell? ⟨g, 2, none⟩ = some (.int .i64 (p)) := H.out.cell 2 rfl
    have f2 := H.out.fr 2
    have c3 : w.cell? ⟨g, 3, none⟩ = some (.int .i64 (flagN q)) := H.out.cell 3 rfl
    have f3 := H.out.fr 3
    have c4 : w.cell? ⟨g, 4, none⟩ = some (.int .i64 (v)) := H.out.cell 4 rfl
    have f4 := H.out.fr 4
    have c5 : w.cell? ⟨g, 5, none⟩ = some (.int .i64 (0)) := H.out.cell 5 rfl
    have f5 := H.out.fr 5
    go_enter Tryd.func26, Tryd.ntmps26
    go_wp2_with (first | (go_at_call 27; refine (mf _ _).mono ?_; rintro e_ w1 ⟨rfl, rfl⟩))
    first | refine bodyPost_end (results_none rfl _ _ _) rfl ⟨rfl, ?_, ?_⟩ | refine bodyPost_ret (results_none rfl _ _ _) rfl ⟨rfl, ?_, ?_⟩
    · (repeat (first | exact H.out | apply Rw.set)) <;> rfl
    · repeat (first | exact Below.refl g _ | refine Below.setCell ?_ (Nat.le_refl g) _)
  · have H : Hid (Rw w g [1, 1, p, flagN q, v, 1]) := h
    have E : (ctdT ⟨true, true, p, q, v, true⟩).ls = [1, 1, p, flagN (decide (p ≤ 0)), p, 1] := by simp [ctdT, ctdV, Cn.ls, flagN]
    rw [E]
    clear E h
    have c0 : w.cell? ⟨g, 0, none⟩ = some (.int .i64 (1)) := H.out.cell 0 rfl
    have f0 := H.out.fr 0
    have c1 : w.cell? ⟨g, 1, none⟩ = some (.int .i64 (1)) := H.out.cell 1 rfl
    have f1 := H.out.fr 1
    have c2 : w.cell? ⟨g, 2, none⟩ = some (.int .i64 (p)) := H.out.cell 2 rfl
    have f2 := H.out.fr 2
    have c3 : w.cell? ⟨g, 3, none⟩ = some (.int .i64 (flagN q)) := H.out.cell 3 rfl
    have f3 := H.out.fr 3
    have c4 : w.cell? ⟨g, 4, none⟩ = some (.int .i64 (v)) := H.out.cell 4 rfl
    have f4 := H.out.fr 4
    have c5 : w.cell? ⟨g, 5, none⟩ = some (.int .i64 (1)) := H.out.cell 5 rfl
    have f5 := H.out.fr 5
    go_enter Tryd.func26, Tryd.ntmps26
    go_wp2_with (first | (go_at_call 27; refine (mf _ _).mono ?_; rintro e_ w1 ⟨rfl, rfl⟩))
    first | refine bodyPost_end (results_none rfl _ _ _) rfl ⟨rfl, ?_, ?_⟩ | refine bodyPost_ret (results_none rfl _ _ _) rfl ⟨rfl, ?_, ?_⟩
    · (repeat (first | exact H.out | apply Rw.set)) <;> rfl
    · repeat (first | exact Below.refl g _ | refine Below.setCell ?_ (Nat.le_refl g) _)
end Go.Proofs.YthifgfhgkdjkfaaDoor
