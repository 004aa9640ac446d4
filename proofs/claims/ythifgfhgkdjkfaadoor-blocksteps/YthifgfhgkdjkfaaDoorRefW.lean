/- The contracts of the document's Fits and Has; of typeSet.has and operation.result. -/
import Derived.Test.YthifgfhgkdjkfaaDoorFitW
namespace Go.Proofs.YthifgfhgkdjkfaaDoor
open Go.RowKit
set_option maxRecDepth 100000 in
theorem fitsR_any (t n : Int) (w : World) : Calls Tryd.prog 24 #[.int .i64 t, .int .i64 n] w fun e w' => e = .returned (.bool (fitB t n)) ∧ w' = w := by
  by_cases h1 : t = 1
  · subst h1
    have E := hide (show fitB 1 n = (decide (n = 0) || decide (n = 1)) by unfold fitB; rw [if_pos rfl])
    go_enter Tryd.func24, Tryd.ntmps24
    go_wp2
    all_goals
      go_ret
      refine ⟨ret_bool ?_, rfl⟩
      rw [E.out]
      clear E
      rw [Bool.eq_iff_iff]
      simp [*]
  · have E := hide (show fitB t n = (tyB t && (decide (-(szN t / 2) ≤ n) && decide (n < szN t / 2))) by unfold fitB; rw [if_neg h1])
    have c := type_any t
    have d := size_any t
    have hs := sz_pos t
    generalize szN t = m at *
    cases hT : tyB t with
    | false =>
      rw [hT] at c E
      clear hT d hs
      go_enter Tryd.func24, Tryd.ntmps24
      go_wp2_with fail
      refine (c _).mono ?_
      rintro e w1 ⟨rfl, rfl⟩
      go_wp2
      go_ret
      exact ⟨ret_bool (by rw [E.out]; rfl), rfl⟩
    | true =>
      rw [hT, Bool.true_and] at E
      rw [hT] at c
      clear hT
      rcases hs with rfl | rfl
      all_goals
        go_enter Tryd.func24, Tryd.ntmps24
        go_wp2_with fail
        refine (c _).mono ?_
        rintro e w1 ⟨rfl, rfl⟩
        go_wp2_with fail
        refine (d _).mono ?_
        rintro e w1 ⟨rfl, rfl⟩
        go_wp2_with fail
        · refine (d _).mono ?_
          rintro e w1 ⟨rfl, rfl⟩
          go_wp2
          all_goals
            go_ret
            refine ⟨ret_bool ?_, rfl⟩
            rw [E.out]
            simp
            omega
        all_goals
          go_ret
          refine ⟨ret_bool ?_, rfl⟩
          rw [E.out]
          simp
          omega
/-- which types an operation's row is for: the bit 1 << t -/
def bitT (s t : Int) : Bool := tyB t && (s / 2 ^ t.toNat % 2 == 1)
set_option maxRecDepth 100000 in
theorem has_any (s t : Int) (hs : s = 28 ∨ s = 12 ∨ s = 14 ∨ s = 30 ∨ s = 0) (w : World) : Calls Tryd.prog 97 #[.int .u8 s, .int .i64 t] w fun e w' => e = .returned (.bool (bitT s t)) ∧ w' = w := by
  have c := isType_any t
  cases hT : tyB t with
  | false =>
    have E := hide (show bitT s t = false by unfold bitT; rw [hT]; rfl)
    rw [hT] at c
    clear hT
    go_enter Tryd.func97, Tryd.ntmps97
    go_wp2_with fail
    refine (c _).mono ?_
    rintro e w1 ⟨rfl, rfl⟩
    go_wp2
    go_ret
    exact ⟨ret_bool (by rw [E.out]), rfl⟩
  | true =>
    have ht : t = 1 ∨ t = 2 ∨ t = 3 ∨ t = 4 := by
      unfold tyB at hT
      rw [Bool.and_eq_true] at hT
      have h1 := of_decide_eq_true hT.1
      have h2 := of_decide_eq_true hT.2
      omega
    rw [hT] at c
    clear hT
    rcases ht with rfl | rfl | rfl | rfl <;> rcases hs with rfl | rfl | rfl | rfl | rfl
    all_goals
      go_enter Tryd.func97, Tryd.ntmps97
      go_wp2_with fail
      refine (c _).mono ?_
      rintro e w1 ⟨rfl, rfl⟩
      go_wp2
      go_ret
      exact ⟨ret_bool (by decide +kernel), rfl⟩
end Go.Proofs.YthifgfhgkdjkfaaDoor
