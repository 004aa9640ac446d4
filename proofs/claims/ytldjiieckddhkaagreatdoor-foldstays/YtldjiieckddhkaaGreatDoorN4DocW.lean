/- The contracts of the document's Two, One and Result. -/
import Derived.Test.YtldjiieckddhkaaGreatDoorMg23
import Derived.Test.YtldjiieckddhkaaGreatDoorN4OpsW
namespace Go.Proofs.YtldjiieckddhkaaGreatDoor.Four
open Go.RowKit
theorem has2_op {op t : Int} (h : has2 op t = true) : 1 ≤ op ∧ op ≤ 14 := by
  unfold has2 at h
  rw [Bool.and_eq_true] at h
  have h2 := h.2
  by_cases hc : 1 ≤ op ∧ op ≤ 14
  · exact hc
  · rw [if_neg (by omega), if_neg (by omega), if_neg (by omega)] at h2
    have := of_decide_eq_true h2; omega
theorem has1_op {op t : Int} (h : has1 op t = true) : op = 15 ∨ op = 16 := by
  unfold has1 at h
  rw [Bool.and_eq_true, Bool.or_eq_true, Bool.and_eq_true, Bool.and_eq_true] at h
  rcases h.2 with h | h
  · exact .inl (of_decide_eq_true h.1)
  · exact .inr (of_decide_eq_true h.1)
set_option maxRecDepth 100000 in
set_option maxHeartbeats 1600000 in
theorem twoR_any (op t a b : Int) (w : World) : Calls Tryz.prog 97 #[.int .i64 op, .int .i64 t, .int .i64 a, .int .i64 b] w fun e w' => e = .returned (.tuple #[.int .i64 (twoN op t a b).1, .int .i64 (twoN op t a b).2]) ∧ w' = w := by
  have c := has2_any op t
  have fa := fitsR_any t a
  have fb := fitsR_any t b
  have E := hide (show twoN op t a b = if has2 op t = false then (0, 40) else if fitB t a = false ∨ fitB t b = false then (0, 1) else if (op = 4 ∨ op = 5) ∧ b = 0 then (0, 41) else if 9 ≤ op then (pureN op a b, 0) else (wrN t (pureN op a b), 0) from rfl)
  cases ho : has2 op t with
  | false =>
    rw [if_pos ho] at E
    rw [ho] at c
    clear ho fa fb
    go_enter Tryz.func97, Tryz.ntmps97
    go_wp2_with fail
    refine (c _).mono ?_
    rintro e w1 ⟨rfl, rfl⟩
    go_wp2
    go_ret2
    exact ⟨by rw [E.out]; rfl, rfl⟩
  | true =>
    rw [if_neg (by rw [ho]; decide)] at E
    rw [ho] at c
    have hop := has2_op ho
    clear ho
    cases ha : fitB t a with
    | false =>
      rw [if_pos (.inl ha)] at E
      rw [ha] at fa
      clear ha fb hop
      go_enter Tryz.func97, Tryz.ntmps97
      go_wp2_with fail
      refine (c _).mono ?_
      rintro e w1 ⟨rfl, rfl⟩
      go_wp2_with fail
      refine (fa _).mono ?_
      rintro e w1 ⟨rfl, rfl⟩
      go_wp2
      go_ret2
      exact ⟨by rw [E.out]; rfl, rfl⟩
    | true =>
      rw [ha] at fa
      cases hb : fitB t b with
      | false =>
        rw [if_pos (.inr hb)] at E
        rw [hb] at fb
        clear ha hb hop
        go_enter Tryz.func97, Tryz.ntmps97
        go_wp2_with fail
        refine (c _).mono ?_
        rintro e w1 ⟨rfl, rfl⟩
        go_wp2_with fail
        refine (fa _).mono ?_
        rintro e w1 ⟨rfl, rfl⟩
        go_wp2_with fail
        refine (fb _).mono ?_
        rintro e w1 ⟨rfl, rfl⟩
        go_wp2
        go_ret2
        exact ⟨by rw [E.out]; rfl, rfl⟩
      | true =>
        rw [hb] at fb
        rw [if_neg (by rw [ha, hb]; decide)] at E
        have ra := hide (R_of_fit ha)
        have rb := hide (R_of_fit hb)
        clear ha hb
        by_cases hz : (op = 4 ∨ op = 5) ∧ b = 0
        · rw [if_pos hz] at E
          obtain ⟨h45, rfl⟩ := hz
          clear hop ra rb
          rcases h45 with rfl | rfl
          all_goals
            go_enter Tryz.func97, Tryz.ntmps97
            go_wp2_with fail
            refine (c _).mono ?_
            rintro e w1 ⟨rfl, rfl⟩
            go_wp2_with fail
            refine (fa _).mono ?_
            rintro e w1 ⟨rfl, rfl⟩
            go_wp2_with fail
            refine (fb _).mono ?_
            rintro e w1 ⟨rfl, rfl⟩
            go_wp2
            go_ret2
            exact ⟨by rw [E.out]; rfl, rfl⟩
        · rw [if_neg hz] at E
          have p := pure_any op a b hop ra.out rb.out (fun h hb => hz ⟨h, hb⟩)
          have q := wrappedR_any t (pureN op a b)
          have hcase : (op = 4 ∧ ¬ b = 0) ∨ (op = 5 ∧ ¬ b = 0) ∨ (¬ op = 4 ∧ ¬ op = 5) := by omega
          generalize pureN op a b = n at *
          clear hz hop ra rb
          by_cases h9 : 9 ≤ op
          · rw [if_pos h9] at E
            clear q
            have n4 : ¬ op = 4 := by omega
            have n5 : ¬ op = 5 := by omega
            clear hcase
            go_enter Tryz.func97, Tryz.ntmps97
            go_wp2_with fail
            refine (c _).mono ?_
            rintro e w1 ⟨rfl, rfl⟩
            go_wp2_with fail
            refine (fa _).mono ?_
            rintro e w1 ⟨rfl, rfl⟩
            go_wp2_with fail
            refine (fb _).mono ?_
            rintro e w1 ⟨rfl, rfl⟩
            go_wp2_with fail
            refine (p _).mono ?_
            rintro e w1 ⟨rfl, rfl⟩
            go_wp2
            go_ret2
            exact ⟨by rw [E.out]; rfl, rfl⟩
          · rw [if_neg h9] at E
            rcases hcase with ⟨rfl, n5⟩ | ⟨rfl, n5⟩ | ⟨n4, n5⟩
            all_goals
              go_enter Tryz.func97, Tryz.ntmps97
              go_wp2_with fail
              refine (c _).mono ?_
              rintro e w1 ⟨rfl, rfl⟩
              go_wp2_with fail
              refine (fa _).mono ?_
              rintro e w1 ⟨rfl, rfl⟩
              go_wp2_with fail
              refine (fb _).mono ?_
              rintro e w1 ⟨rfl, rfl⟩
              go_wp2_with fail
              refine (p _).mono ?_
              rintro e w1 ⟨rfl, rfl⟩
              go_wp2_with fail
              refine (q _).mono ?_
              rintro e w1 ⟨rfl, rfl⟩
              go_wp2
              go_ret2
              exact ⟨by rw [E.out]; rfl, rfl⟩
set_option maxRecDepth 100000 in
set_option maxHeartbeats 1600000 in
theorem oneR_any (op t a : Int) (w : World) : Calls Tryz.prog 96 #[.int .i64 op, .int .i64 t, .int .i64 a] w fun e w' => e = .returned (.tuple #[.int .i64 (oneN op t a).1, .int .i64 (oneN op t a).2]) ∧ w' = w := by
  have c := has1_any op t
  have fa := fitsR_any t a
  have E := hide (show oneN op t a = if has1 op t = false then (0, 40) else if fitB t a = false then (0, 1) else if op = 15 then (wrN t (-a), 0) else if t = 1 then (1 - a, 0) else (wrN t (-1 - a), 0) from rfl)
  cases ho : has1 op t with
  | false =>
    rw [if_pos ho] at E
    rw [ho] at c
    clear ho fa
    go_enter Tryz.func96, Tryz.ntmps96
    go_wp2_with fail
    refine (c _).mono ?_
    rintro e w1 ⟨rfl, rfl⟩
    go_wp2
    go_ret2
    exact ⟨by rw [E.out]; rfl, rfl⟩
  | true =>
    rw [if_neg (by rw [ho]; decide)] at E
    rw [ho] at c
    clear ho
    cases ha : fitB t a with
    | false =>
      rw [if_pos ha] at E
      rw [ha] at fa
      clear ha
      go_enter Tryz.func96, Tryz.ntmps96
      go_wp2_with fail
      refine (c _).mono ?_
      rintro e w1 ⟨rfl, rfl⟩
      go_wp2_with fail
      refine (fa _).mono ?_
      rintro e w1 ⟨rfl, rfl⟩
      go_wp2
      go_ret2
      exact ⟨by rw [E.out]; rfl, rfl⟩
    | true =>
      rw [ha] at fa
      rw [if_neg (by rw [ha]; decide)] at E
      have ra := R_of_fit ha
      have e1 : wrap64 (-a) = -a := w_neg ra
      have e2 : wrap64 (-1 - a) = -1 - a := w_sub (a := -1) ⟨by decide, by decide⟩ ra
      have e3 : wrap64 (1 - a) = 1 - a := w_sub (a := 1) ⟨by decide, by decide⟩ ra
      have q := wrappedR_any t
      clear ha ra
      by_cases h15 : op = 15
      · subst h15
        rw [if_pos rfl] at E
        clear e2 e3
        go_enter Tryz.func96, Tryz.ntmps96
        go_wp2_with fail
        refine (c _).mono ?_
        rintro e w1 ⟨rfl, rfl⟩
        go_wp2_with fail
        refine (fa _).mono ?_
        rintro e w1 ⟨rfl, rfl⟩
        go_wp2_with fail
        refine (q _ _).mono ?_
        rintro e w1 ⟨rfl, rfl⟩
        go_wp2
        go_ret2
        exact ⟨by rw [E.out]; first | rfl | rw [e1]; rfl, rfl⟩
      · rw [if_neg h15] at E
        by_cases h1 : t = 1
        · subst h1
          rw [if_pos rfl] at E
          clear e1 e2
          go_enter Tryz.func96, Tryz.ntmps96
          go_wp2_with fail
          refine (c _).mono ?_
          rintro e w1 ⟨rfl, rfl⟩
          go_wp2_with fail
          refine (fa _).mono ?_
          rintro e w1 ⟨rfl, rfl⟩
          go_wp2
          go_ret2
          exact ⟨by rw [E.out]; first | rfl | rw [e3]; rfl, rfl⟩
        · rw [if_neg h1] at E
          clear e1 e3
          go_enter Tryz.func96, Tryz.ntmps96
          go_wp2_with fail
          refine (c _).mono ?_
          rintro e w1 ⟨rfl, rfl⟩
          go_wp2_with fail
          refine (fa _).mono ?_
          rintro e w1 ⟨rfl, rfl⟩
          go_wp2_with fail
          refine (q _ _).mono ?_
          rintro e w1 ⟨rfl, rfl⟩
          go_wp2
          go_ret2
          exact ⟨by rw [E.out]; first | rfl | rw [e2]; rfl, rfl⟩
set_option maxRecDepth 100000 in
set_option maxHeartbeats 1600000 in
theorem resR_any (op t : Int) (w : World) : Calls Tryz.prog 95 #[.int .i64 op, .int .i64 t] w fun e w' => e = .returned (.tuple #[.int .i64 (resN op t).1, .int .i64 (resN op t).2]) ∧ w' = w := by
  have c := has1_any op t
  have d := has2_any op t
  have E := hide (show resN op t = if has1 op t = false ∧ has2 op t = false then (0, 40) else if 9 ≤ op ∧ op ≤ 14 then (1, 0) else (t, 0) from rfl)
  cases h1 : has1 op t with
  | false =>
    rw [h1] at c
    cases h2 : has2 op t with
    | false =>
      rw [if_pos ⟨h1, h2⟩] at E
      rw [h2] at d
      clear h1 h2
      go_enter Tryz.func95, Tryz.ntmps95
      go_wp2_with fail
      refine (c _).mono ?_
      rintro e w1 ⟨rfl, rfl⟩
      go_wp2_with fail
      refine (d _).mono ?_
      rintro e w1 ⟨rfl, rfl⟩
      go_wp2
      go_ret2
      exact ⟨by rw [E.out]; rfl, rfl⟩
    | true =>
      rw [if_neg (fun h => by rw [h2] at h; exact absurd h.2 (by decide))] at E
      rw [h2] at d
      have hop := has2_op h2
      clear h1 h2
      by_cases h9 : 9 ≤ op
      · rw [if_pos ⟨h9, hop.2⟩] at E
        have h14 : op ≤ 14 := hop.2
        clear hop
        go_enter Tryz.func95, Tryz.ntmps95
        go_wp2_with fail
        refine (c _).mono ?_
        rintro e w1 ⟨rfl, rfl⟩
        go_wp2_with fail
        refine (d _).mono ?_
        rintro e w1 ⟨rfl, rfl⟩
        go_wp2
        go_ret2
        exact ⟨by rw [E.out]; rfl, rfl⟩
      · rw [if_neg (fun h => h9 h.1)] at E
        clear hop
        go_enter Tryz.func95, Tryz.ntmps95
        go_wp2_with fail
        refine (c _).mono ?_
        rintro e w1 ⟨rfl, rfl⟩
        go_wp2_with fail
        refine (d _).mono ?_
        rintro e w1 ⟨rfl, rfl⟩
        go_wp2
        go_ret2
        exact ⟨by rw [E.out]; rfl, rfl⟩
  | true =>
    rw [if_neg (fun h => by rw [h1] at h; exact absurd h.1 (by decide))] at E
    have hop := has1_op h1
    rw [if_neg (by omega)] at E
    rw [h1] at c
    clear h1 d
    rcases hop with rfl | rfl
    all_goals
      go_enter Tryz.func95, Tryz.ntmps95
      go_wp2_with fail
      refine (c _).mono ?_
      rintro e w1 ⟨rfl, rfl⟩
      go_wp2
      go_ret2
      exact ⟨by rw [E.out]; rfl, rfl⟩
end Go.Proofs.YtldjiieckddhkaaGreatDoor.Four
