/- The contracts of Convert, the program's and the document's. -/
import Derived.Test.YtmbgcpmapaedcaaDoorN4ResW
namespace Go.Proofs.YtmbgcpmapaedcaaDoor.Four
open Go.RowKit
set_option maxRecDepth 100000 in
set_option maxHeartbeats 1600000 in
theorem conv_any (f t n : Int) (w : World) (hg : Glo w) : Calls Tryd.prog 48 #[.int .i64 f, .int .i64 t, .int .i64 n] w fun e w' => e = .returned (.tuple #[.int .i64 (convN f t n).1, .int .i64 (convN f t n).2]) ∧ w' = w := by
  have c := isType_any
  have d := wrapped_any t n
  have b := fits_any f n w hg
  have E := hide (show convN f t n = if tyB f = false ∨ tyB t = false ∨ (decide (f = 1) != decide (t = 1)) = true then (0, 40) else if fitB f n = false then (0, 1) else (wrN t n, 0) from rfl)
  clear hg
  generalize fitB f n = B at *
  have c1 := c f
  have c2 := c t
  clear c
  cases hf : tyB f with
  | false =>
    rw [if_pos (.inl hf)] at E
    rw [hf] at c1
    clear hf c2 d b
    go_enter Tryd.func48, Tryd.ntmps48
    go_wp2_with fail
    refine (c1 _).mono ?_
    rintro e w1 ⟨rfl, rfl⟩
    go_wp2
    go_ret2
    exact ⟨by rw [E.out]; rfl, rfl⟩
  | true =>
    rw [hf] at c1
    cases ht : tyB t with
    | false =>
      rw [if_pos (.inr (.inl ht))] at E
      rw [ht] at c2
      clear hf ht d b
      go_enter Tryd.func48, Tryd.ntmps48
      go_wp2_with fail
      refine (c1 _).mono ?_
      rintro e w1 ⟨rfl, rfl⟩
      go_wp2_with fail
      refine (c2 _).mono ?_
      rintro e w1 ⟨rfl, rfl⟩
      go_wp2
      go_ret2
      exact ⟨by rw [E.out]; rfl, rfl⟩
    | true =>
      rw [ht] at c2
      by_cases hx : (decide (f = 1) != decide (t = 1)) = true
      · rw [if_pos (.inr (.inr hx))] at E
        have hx' : (f = 1 ∧ ¬ t = 1) ∨ (¬ f = 1 ∧ t = 1) := by
          by_cases h1 : f = 1 <;> by_cases h2 : t = 1 <;> simp [h1, h2] at hx ⊢
        have k1 : ¬ f = 1 → (f == 1) = false := fun h => by simp [h]
        have k2 : ¬ t = 1 → (t == 1) = false := fun h => by simp [h]
        clear hf ht d b hx
        have hx2 : (f = 1 ∧ (t == 1) = false) ∨ ((f == 1) = false ∧ t = 1) := hx'.imp (fun h => ⟨h.1, k2 h.2⟩) (fun h => ⟨k1 h.1, h.2⟩)
        clear k1 k2 hx'
        rcases hx2 with ⟨rfl, h2⟩ | ⟨h1, rfl⟩
        all_goals
          go_enter Tryd.func48, Tryd.ntmps48
          go_wp2_with fail
          refine (c1 _).mono ?_
          rintro e w1 ⟨rfl, rfl⟩
          go_wp2_with fail
          refine (c2 _).mono ?_
          rintro e w1 ⟨rfl, rfl⟩
          go_wp2
          go_ret2
          exact ⟨by rw [E.out]; rfl, rfl⟩
      · rw [if_neg (by rw [hf, ht]; simp only [Bool.true_eq_false, false_or]; exact hx)] at E
        have hx' : (f = 1 ∧ t = 1) ∨ (¬ f = 1 ∧ ¬ t = 1) := by
          by_cases h1 : f = 1 <;> by_cases h2 : t = 1 <;> simp [h1, h2] at hx ⊢
        have k1 : ¬ f = 1 → (f == 1) = false := fun h => by simp [h]
        have k2 : ¬ t = 1 → (t == 1) = false := fun h => by simp [h]
        clear hf ht hx
        cases B with
        | false =>
          rw [if_pos rfl] at E
          clear d
          have hx2 : (f = 1 ∧ t = 1) ∨ ((f == 1) = false ∧ (t == 1) = false) := hx'.imp id (fun h => ⟨k1 h.1, k2 h.2⟩)
          clear k1 k2 hx'
          rcases hx2 with ⟨rfl, rfl⟩ | ⟨h1, h2⟩
          all_goals
            go_enter Tryd.func48, Tryd.ntmps48
            go_wp2_with fail
            refine (c1 _).mono ?_
            rintro e w1 ⟨rfl, rfl⟩
            go_wp2_with fail
            refine (c2 _).mono ?_
            rintro e w1 ⟨rfl, rfl⟩
            go_wp2_with fail
            refine b.mono ?_
            rintro e w1 ⟨rfl, rfl⟩
            go_wp2
            go_ret2
            exact ⟨by rw [E.out]; rfl, rfl⟩
        | true =>
          rw [if_neg (by decide)] at E
          have hx2 : (f = 1 ∧ t = 1) ∨ ((f == 1) = false ∧ (t == 1) = false) := hx'.imp id (fun h => ⟨k1 h.1, k2 h.2⟩)
          clear k1 k2 hx'
          rcases hx2 with ⟨rfl, rfl⟩ | ⟨h1, h2⟩
          all_goals
            go_enter Tryd.func48, Tryd.ntmps48
            go_wp2_with fail
            refine (c1 _).mono ?_
            rintro e w1 ⟨rfl, rfl⟩
            go_wp2_with fail
            refine (c2 _).mono ?_
            rintro e w1 ⟨rfl, rfl⟩
            go_wp2_with fail
            refine b.mono ?_
            rintro e w1 ⟨rfl, rfl⟩
            go_wp2_with fail
            refine (d _).mono ?_
            rintro e w1 ⟨rfl, rfl⟩
            go_wp2
            go_ret2
            exact ⟨by rw [E.out]; rfl, rfl⟩
end Go.Proofs.YtmbgcpmapaedcaaDoor.Four
