/- The contracts of the document's Fits and Has; of typeSet.has and operation.result. -/
import Derived.Test.YtmbgcpmapaedcaaDoorN4FitW
namespace Go.Proofs.YtmbgcpmapaedcaaDoor.Four
open Go.RowKit
/-- which types an operation's row is for: the bit 1 << t -/
def bitT (s t : Int) : Bool := tyB t && (s / 2 ^ t.toNat % 2 == 1)
set_option maxRecDepth 100000 in
theorem has_any (s t : Int) (hs : s = 28 ∨ s = 12 ∨ s = 14 ∨ s = 30 ∨ s = 0) (w : World) : Calls Tryd.prog 88 #[.int .u8 s, .int .i64 t] w fun e w' => e = .returned (.bool (bitT s t)) ∧ w' = w := by
  have c := isType_any t
  cases hT : tyB t with
  | false =>
    have E := hide (show bitT s t = false by unfold bitT; rw [hT]; rfl)
    rw [hT] at c
    clear hT
    go_enter Tryd.func88, Tryd.ntmps88
    go_wp2_with fail
    refine (c _).mono ?_
    rintro e w1 ⟨rfl, rfl⟩
    go_wp2
    go_ret
    exact ⟨ret_bool (by rw [E.out]), rfl⟩
  | true =>
    have ht : t = 1 ∨ t = 2 ∨ t = 3 ∨ t = 4 := by
      unfold tyB at hT
      rw [Bool.and_eq_true] at hT
      have h1 := of_decide_eq_true hT.1
      have h2 := of_decide_eq_true hT.2
      omega
    rw [hT] at c
    clear hT
    rcases ht with rfl | rfl | rfl | rfl <;> rcases hs with rfl | rfl | rfl | rfl | rfl
    all_goals
      go_enter Tryd.func88, Tryd.ntmps88
      go_wp2_with fail
      refine (c _).mono ?_
      rintro e w1 ⟨rfl, rfl⟩
      go_wp2
      go_ret
      exact ⟨ret_bool (by decide +kernel), rfl⟩
end Go.Proofs.YtmbgcpmapaedcaaDoor.Four
