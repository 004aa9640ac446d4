/- The walk of QuadPlaces. -/
import Derived.Test.YtaffoannpnifmaaWoW
import Derived.Test.YtaffoannpnifmaaOfW
namespace Go.Proofs.Ytaffoannpnifmaa
open Go.RowKit
theorem u_same {n : Nat} (h : n < 4) : FloatKind.f64.format.order (uRe n) (uRe n) = some .eq ∧ FloatKind.f64.format.order (uIm n) (uIm n) = some .eq := by
  obtain rfl | rfl | rfl | rfl : n = 0 ∨ n = 1 ∨ n = 2 ∨ n = 3 := by omega
  all_goals exact ⟨by decide +kernel, by decide +kernel⟩
theorem pn_ln {n : Nat} (h : n < 4) : pn (lnA n) (lnB n) = n := by
  obtain rfl | rfl | rfl | rfl : n = 0 ∨ n = 1 ∨ n = 2 ∨ n = 3 := by omega
  all_goals rfl
theorem zero_zero : FloatKind.f64.format.order 0 0 = some .eq := by decide +kernel
set_option maxRecDepth 100000 in
set_option maxHeartbeats 3200000 in
theorem places_law (f t : Int) (w : World) : Calls Try.prog 3 #[.int .i64 f, .int .i64 t] w fun e w' => e = .returned (.bool true) ∧ Below w.heap.size w w' := by
  have mw := fun W => works_any W
  have mp := fun a b W => place_any a b W
  have mr := fun a b W => refPlace_any a b W
  have ms := fun W => step_any f t W
  have mq := fun W => refStep_any f t W
  have mi := fun W => is_any f W
  generalize stepV f t = S at *
  obtain ⟨S1, S2⟩ := S
  go_enter Try.func3, Try.ntmps3
  go_wp2_with fail
  go_loopw [5, 6, 7, 8, 9, 10, 11] (fun i _ _ _ _ _ _ wr => ∃ k : Nat, k ≤ 4 ∧ i = .int .i64 (k : Int) ∧ Hid (Below w.heap.size w wr)) (fun i _ _ _ _ _ _ _ => 4 - (intOf i).toNat)
  case atStart => exact ⟨0, by omega, rfl, Below.refl _ _⟩
  case round =>
    obtain ⟨k, hk, rfl, HB⟩ := hrel
    by_cases hlt : k < 4
    · clear ms mq mi mw
      obtain ⟨A, B, m1, m2, m3, hq1, hq2⟩ : ∃ A B : Bool, True ∧ True ∧ True ∧ A = (k % 2 == 1) ∧ B = (k / 2 == 1) := ⟨_, _, trivial, trivial, trivial, rfl, rfl⟩
      clear m1 m2 m3
      have m1 := fun W => mp A B W
      have m2 := fun W => lines_ok (pn A B) (pn_lt A B) W
      have m3 := fun W => mr A B W
      rw [show (if A && B then 2 else if A then 1 else if B then 3 else 0) = pn A B from rfl] at m3
      have e1 : lnA (pn A B) = A := by cases A <;> cases B <;> rfl
      have e2 : lnB (pn A B) = B := by cases A <;> cases B <;> rfl
      rw [e1, e2] at m2
      clear mp mr e1 e2
      generalize pn A B = P at *
      obtain rfl | rfl | rfl | rfl : k = 0 ∨ k = 1 ∨ k = 2 ∨ k = 3 := by omega
      all_goals
        simp at hq1 hq2
        subst hq1 hq2
        clear hk hlt
        go_wp2_with (first | (go_at_call 9; refine (m1 _).mono ?_; rintro e w1 ⟨rfl, hb1⟩) | (go_at_call 10; refine (m2 _).mono ?_; rintro e w2 ⟨rfl, hb2⟩) | (go_at_call 11; refine (m3 _).mono ?_; rintro e w3 ⟨rfl, rfl⟩))
        go_roundw
        case rel => first | exact ⟨1, by decide, rfl, blw (blw HB.out hb1) hb2⟩ | exact ⟨2, by decide, rfl, blw (blw HB.out hb1) hb2⟩ | exact ⟨3, by decide, rfl, blw (blw HB.out hb1) hb2⟩ | exact ⟨4, by decide, rfl, blw (blw HB.out hb1) hb2⟩
        case measure => decide
    · obtain rfl : k = 4 := by omega
      clear hk hlt mp mr
      by_cases hf : isP f = true
      · rw [hf] at mi
        obtain ⟨F, hF, rfl⟩ := isP_nat hf
        have m1 := fun W => unit_ok F hF W
        have m2 := fun W => lines_ok F hF W
        have m3 := fun W => parts_any F hF W
        have m4 := fun W => refPlace_any (lnA F) (lnB F) W
        rw [show (if lnA F && lnB F then 2 else if lnA F then 1 else if lnB F then 3 else 0) = pn (lnA F) (lnB F) from rfl, pn_ln hF] at m4
        obtain ⟨x1, x2⟩ := u_same hF
        generalize uRe F = ux at *
        generalize uIm F = uy at *
        generalize lnA F = la at *
        generalize lnB F = lb at *
        clear hf hF
        go_wp2_with (first | (go_at_call 12; refine (m1 _).mono ?_; rintro e w1 ⟨rfl, hb1⟩) | (go_at_call 10; refine (m2 _).mono ?_; rintro e w2 ⟨rfl, hb2⟩) | (go_at_call 13; refine (mi _).mono ?_; rintro e w3 ⟨rfl, rfl⟩) | (go_at_call 14; refine (m3 _).mono ?_; rintro e w4 ⟨rfl, hb4⟩) | (go_at_call 11; refine (m4 _).mono ?_; rintro e w5 ⟨rfl, rfl⟩) | (go_at_call 15; refine (ms _).mono ?_; rintro e w6 ⟨rfl, hb6⟩) | (go_at_call 16; refine (mq _).mono ?_; rintro e w7 ⟨rfl, rfl⟩) | (go_at_call 17; refine (mw _).mono ?_; rintro e w8 ⟨rfl, hb8⟩))
        go_ret
        exact ⟨rfl, blw (blw (blw (blw (blw HB.out hb1) hb2) hb4) hb6) hb8⟩
      · have hf' := Bool.eq_false_iff.2 hf
        rw [hf'] at mi
        have m1 := fun W => unit_no f hf' W
        have m2 := fun W => lines_no f hf' W
        have x1 := zero_zero
        clear hf hf'
        go_wp2_with (first | (go_at_call 12; refine (m1 _).mono ?_; rintro e w1 ⟨rfl, hb1⟩) | (go_at_call 10; refine (m2 _).mono ?_; rintro e w2 ⟨rfl, hb2⟩) | (go_at_call 13; refine (mi _).mono ?_; rintro e w3 ⟨rfl, rfl⟩) | (go_at_call 15; refine (ms _).mono ?_; rintro e w6 ⟨rfl, hb6⟩) | (go_at_call 16; refine (mq _).mono ?_; rintro e w7 ⟨rfl, rfl⟩) | (go_at_call 17; refine (mw _).mono ?_; rintro e w8 ⟨rfl, hb8⟩))
        go_ret
        exact ⟨rfl, blw (blw (blw (blw HB.out hb1) hb2) hb6) hb8⟩
end Go.Proofs.Ytaffoannpnifmaa
