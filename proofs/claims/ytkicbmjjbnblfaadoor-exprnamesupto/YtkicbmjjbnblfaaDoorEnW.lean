/- The contracts of num.Fits and of expr.isNumber, operationOf, conversionTo and operands. -/
import Derived.Test.YtkicbmjjbnblfaaDoorEwW
import Derived.Test.YtkicbmjjbnblfaaDoorBckE
namespace Go.Proofs.YtkicbmjjbnblfaaDoor
open Go.RowKit
def tyB (t : Int) : Bool := decide (1 ≤ t) && decide (t ≤ 4)
set_option maxRecDepth 100000 in
theorem isType_any (t : Int) (w : World) : Calls Tryd.prog 110 #[.int .i64 t] w fun e w' => e = .returned (.bool (tyB t)) ∧ w' = w := by
  have E := hide (show tyB t = (decide (1 ≤ t) && decide (t ≤ 4)) from rfl)
  by_cases h1 : 1 ≤ t
  · by_cases h2 : t ≤ 4
    · rw [E.out, decide_eq_true h1, decide_eq_true h2]
      clear E
      go_enter Tryd.func110, Tryd.ntmps110
      go_wp2
      go_ret
      exact ⟨rfl, rfl⟩
    · rw [E.out, decide_eq_true h1, decide_eq_false h2]
      clear E
      go_enter Tryd.func110, Tryd.ntmps110
      go_wp2
      go_ret
      exact ⟨rfl, rfl⟩
  · rw [E.out, decide_eq_false h1]
    clear E
    go_enter Tryd.func110, Tryd.ntmps110
    go_wp2
    go_ret
    exact ⟨rfl, rfl⟩
set_option maxRecDepth 100000 in
theorem fits_all (t n : Int) (w : World) (hg : TabAt w 5 spanTab) : Calls Tryd.prog 84 #[.int .i64 t, .int .i64 n] w fun e w' => e = .returned (.bool (fit6 t n)) ∧ w' = w := by
  have g0 := hg 2 _ rfl
  have g1 := hg 3 _ rfl
  have g2 := hg 4 _ rfl
  have g3 := hg 5 _ rfl
  have g4 := hg 6 _ rfl
  have g5 := hg 7 _ rfl
  have g6 := hg 8 _ rfl
  have g7 := hg 9 _ rfl
  clear hg
  have c := isType_any t
  by_cases ht : t = 1 ∨ t = 2 ∨ t = 3 ∨ t = 4
  · have E1 := hide (show fit6 1 n = (decide (0 ≤ n) && decide (n ≤ 1)) by
      show (decide (n = 0) || decide (n = 1)) = _
      rw [Bool.eq_iff_iff]; simp; omega)
    have E2 := hide (show fit6 2 n = (decide (-32768 ≤ n) && decide (n ≤ 32767)) from rfl)
    have E3 := hide (show fit6 3 n = (decide (-2147483648 ≤ n) && decide (n ≤ 2147483647)) from rfl)
    have E4 := hide (show fit6 4 n = (decide (-2147483648 ≤ n) && decide (n ≤ 2147483647)) from rfl)
    rcases ht with rfl | rfl | rfl | rfl
    all_goals
      go_enter Tryd.func84, Tryd.ntmps84
      go_wp2_with fail
      refine (c _).mono ?_
      rintro e w1 ⟨rfl, rfl⟩
      go_wp2
    all_goals
      go_ret
      refine ⟨ret_bool ?_, rfl⟩
      first
        | (rw [E1.out, Bool.eq_iff_iff]; simp; omega)
        | (rw [E2.out, Bool.eq_iff_iff]; simp; omega)
        | (rw [E3.out, Bool.eq_iff_iff]; simp; omega)
        | (rw [E4.out, Bool.eq_iff_iff]; simp; omega)
  · have E : Hid (fit6 t n = false) := by
      show _ = _
      unfold fit6
      rw [if_neg (by omega), if_neg (by omega), if_neg (by omega)]
    rw [show tyB t = false from by unfold tyB; rw [Bool.and_eq_false_iff]; simp; omega] at c
    go_enter Tryd.func84, Tryd.ntmps84
    go_wp2_with fail
    refine (c _).mono ?_
    rintro e w1 ⟨rfl, rfl⟩
    go_wp2
    go_ret
    exact ⟨ret_bool E.out.symm, rfl⟩
/-- may a number be? -/
def numB (t n : Int) : Bool := if t = 0 then decide (-2147483648 ≤ n) && decide (n ≤ 2147483648) else fit6 t n
set_option maxRecDepth 100000 in
theorem isNumber_any (t n : Int) (w : World) (hg : TabAt w 5 spanTab) : Calls Tryd.prog 54 #[.int .i64 t, .int .i64 n] w fun e w' => e = .returned (.bool (numB t n)) ∧ w' = w := by
  by_cases ht : t = 0
  · subst ht
    have E : Hid (numB 0 n = (decide (-2147483648 ≤ n) && decide (n ≤ 2147483648))) := rfl
    clear hg
    by_cases h1 : (-2147483648 : Int) ≤ n
    · go_enter Tryd.func54, Tryd.ntmps54
      go_wp2
      go_ret
      exact ⟨ret_bool (by rw [E.out, Bool.eq_iff_iff]; simp; try omega), rfl⟩
    · go_enter Tryd.func54, Tryd.ntmps54
      go_wp2
      go_ret
      exact ⟨ret_bool (by rw [E.out, Bool.eq_iff_iff]; simp; try omega), rfl⟩
  · have E : Hid (numB t n = fit6 t n) := by show _ = _; rw [numB, if_neg ht]
    have c := fits_all t n w hg
    clear hg
    go_enter Tryd.func54, Tryd.ntmps54
    go_wp2_with fail
    refine c.mono ?_
    rintro e w1 ⟨rfl, rfl⟩
    go_wp2
    go_ret
    exact ⟨ret_bool E.out.symm, rfl⟩
end Go.Proofs.YtkicbmjjbnblfaaDoor
