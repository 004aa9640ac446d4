/- The contract of the document's Has: which operations there are. -/
import Derived.Test.YthifgfhgkdjkfaaDoorRefW
namespace Go.Proofs.YthifgfhgkdjkfaaDoor
open Go.RowKit
theorem ne_dec' (a b : Int) : (a != b) = decide (a ≠ b) := by
  rw [Bool.eq_iff_iff]; simp
set_option maxRecDepth 100000 in
theorem has1_any (op t : Int) (w : World) : Calls Tryd.prog 53 #[.int .i64 op, .int .i64 t, .int .i64 1] w fun e w' => e = .returned (.bool (has1 op t)) ∧ w' = w := by
  have c := type_any t
  cases hT : tyB t with
  | false =>
    have E := hide (show has1 op t = false by unfold has1; rw [hT]; rfl)
    rw [hT] at c
    clear hT
    go_enter Tryd.func53, Tryd.ntmps53
    go_wp2_with fail
    refine (c _).mono ?_
    rintro e w1 ⟨rfl, rfl⟩
    go_wp2
    go_ret
    exact ⟨ret_bool (by rw [E.out]), rfl⟩
  | true =>
    have E := hide (show has1 op t = ((decide (op = 15) && decide (t ≠ 1)) || (decide (op = 16) && decide (t ≠ 4))) by unfold has1; rw [hT]; rfl)
    have ht : t = 1 ∨ t = 2 ∨ t = 3 ∨ t = 4 := by
      unfold tyB at hT
      rw [Bool.and_eq_true] at hT
      have h1 := of_decide_eq_true hT.1
      have h2 := of_decide_eq_true hT.2
      omega
    rw [hT] at c
    clear hT
    by_cases h15 : op = 15
    · subst h15
      rcases ht with rfl | rfl | rfl | rfl
      all_goals
        go_enter Tryd.func53, Tryd.ntmps53
        go_wp2_with fail
        refine (c _).mono ?_
        rintro e w1 ⟨rfl, rfl⟩
        go_wp2
        go_ret
        exact ⟨ret_bool (by rw [E.out]; rfl), rfl⟩
    · by_cases h16 : op = 16
      · subst h16
        rcases ht with rfl | rfl | rfl | rfl
        all_goals
          go_enter Tryd.func53, Tryd.ntmps53
          go_wp2_with fail
          refine (c _).mono ?_
          rintro e w1 ⟨rfl, rfl⟩
          go_wp2
          go_ret
          exact ⟨ret_bool (by rw [E.out]; rfl), rfl⟩
      · have E' := hide (show has1 op t = false by rw [E.out, decide_eq_false h15, decide_eq_false h16]; rfl)
        clear E
        rcases ht with rfl | rfl | rfl | rfl
        all_goals
          go_enter Tryd.func53, Tryd.ntmps53
          go_wp2_with fail
          refine (c _).mono ?_
          rintro e w1 ⟨rfl, rfl⟩
          go_wp2
          go_ret
          exact ⟨ret_bool (by rw [E'.out]), rfl⟩
set_option maxRecDepth 100000 in
set_option maxHeartbeats 1600000 in
theorem has2_any (op t : Int) (w : World) : Calls Tryd.prog 53 #[.int .i64 op, .int .i64 t, .int .i64 2] w fun e w' => e = .returned (.bool (has2 op t)) ∧ w' = w := by
  have c := type_any t
  cases hT : tyB t with
  | false =>
    have E := hide (show has2 op t = false by unfold has2; rw [hT]; rfl)
    rw [hT] at c
    clear hT
    go_enter Tryd.func53, Tryd.ntmps53
    go_wp2_with fail
    refine (c _).mono ?_
    rintro e w1 ⟨rfl, rfl⟩
    go_wp2
    go_ret
    exact ⟨ret_bool (by rw [E.out]), rfl⟩
  | true =>
    have ht : t = 1 ∨ t = 2 ∨ t = 3 ∨ t = 4 := by
      unfold tyB at hT
      rw [Bool.and_eq_true] at hT
      have h1 := of_decide_eq_true hT.1
      have h2 := of_decide_eq_true hT.2
      omega
    rw [hT] at c
    by_cases ho : 1 ≤ op ∧ op ≤ 14
    · have : op = 1 ∨ op = 2 ∨ op = 3 ∨ op = 4 ∨ op = 5 ∨ op = 6 ∨ op = 7 ∨ op = 8 ∨ op = 9 ∨ op = 10 ∨ op = 11 ∨ op = 12 ∨ op = 13 ∨ op = 14 := by omega
      clear ho hT
      rcases this with rfl | rfl | rfl | rfl | rfl | rfl | rfl | rfl | rfl | rfl | rfl | rfl | rfl | rfl <;> rcases ht with rfl | rfl | rfl | rfl
      all_goals
        go_enter Tryd.func53, Tryd.ntmps53
        go_wp2_with fail
        refine (c _).mono ?_
        rintro e w1 ⟨rfl, rfl⟩
        go_wp2
        go_ret
        exact ⟨ret_bool (by decide), rfl⟩
    · have E := hide (show has2 op t = false by
        unfold has2
        rw [hT, if_neg (by omega), if_neg (by omega), if_neg (by omega), decide_eq_false (by omega)]; rfl)
      have n1 : ¬ op = 1 := by omega
      have n2 : ¬ op = 2 := by omega
      have n3 : ¬ op = 3 := by omega
      have n4 : ¬ op = 4 := by omega
      have n5 : ¬ op = 5 := by omega
      have n6 : ¬ op = 6 := by omega
      have n7 : ¬ op = 7 := by omega
      have n8 : ¬ op = 8 := by omega
      have n9 : ¬ op = 9 := by omega
      have n10 : ¬ op = 10 := by omega
      have n11 : ¬ op = 11 := by omega
      have n12 : ¬ op = 12 := by omega
      have n13 : ¬ op = 13 := by omega
      have n14 : ¬ op = 14 := by omega
      clear ho hT
      rcases ht with rfl | rfl | rfl | rfl
      all_goals
        go_enter Tryd.func53, Tryd.ntmps53
        go_wp2_with fail
        refine (c _).mono ?_
        rintro e w1 ⟨rfl, rfl⟩
        go_wp2
        go_ret
        exact ⟨ret_bool (by rw [E.out]; first | rfl | simp [*]), rfl⟩
end Go.Proofs.YthifgfhgkdjkfaaDoor
