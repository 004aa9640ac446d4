/- N4HasW | N4DocW | N4NumP | N4ResW -/
import Derived.Test.YtldjiieckddhkaaGreatDoorMg9
import Derived.Test.YtldjiieckddhkaaGreatDoorMg10
namespace Go.Proofs.YtldjiieckddhkaaGreatDoor.Four
open Go.RowKit
theorem ne_dec' (a b : Int) : (a != b) = decide (a ≠ b) := by
  rw [Bool.eq_iff_iff]; simp
set_option maxRecDepth 100000 in
theorem has1_any (op t : Int) (w : World) : Calls Tryz.prog 131 #[.int .i64 op, .int .i64 t, .int .i64 1] w fun e w' => e = .returned (.bool (has1 op t)) ∧ w' = w := by
  have c := type_any t
  cases hT : tyB t with
  | false =>
    have E := hide (show has1 op t = false by unfold has1; rw [hT]; rfl)
    rw [hT] at c
    clear hT
    go_enter Tryz.func131, Tryz.ntmps131
    go_wp2_with fail
    refine (c _).mono ?_
    rintro e w1 ⟨rfl, rfl⟩
    go_wp2
    go_ret
    exact ⟨ret_bool (by rw [E.out]), rfl⟩
  | true =>
    have E := hide (show has1 op t = ((decide (op = 15) && decide (t ≠ 1)) || (decide (op = 16) && decide (t ≠ 4))) by unfold has1; rw [hT]; rfl)
    have ht : t = 1 ∨ t = 2 ∨ t = 3 ∨ t = 4 := by
      unfold tyB at hT
      rw [Bool.and_eq_true] at hT
      have h1 := of_decide_eq_true hT.1
      have h2 := of_decide_eq_true hT.2
      omega
    rw [hT] at c
    clear hT
    by_cases h15 : op = 15
    · subst h15
      rcases ht with rfl | rfl | rfl | rfl
      all_goals
        go_enter Tryz.func131, Tryz.ntmps131
        go_wp2_with fail
        refine (c _).mono ?_
        rintro e w1 ⟨rfl, rfl⟩
        go_wp2
        go_ret
        exact ⟨ret_bool (by rw [E.out]; rfl), rfl⟩
    · by_cases h16 : op = 16
      · subst h16
        rcases ht with rfl | rfl | rfl | rfl
        all_goals
          go_enter Tryz.func131, Tryz.ntmps131
          go_wp2_with fail
          refine (c _).mono ?_
          rintro e w1 ⟨rfl, rfl⟩
          go_wp2
          go_ret
          exact ⟨ret_bool (by rw [E.out]; rfl), rfl⟩
      · have E' := hide (show has1 op t = false by rw [E.out, decide_eq_false h15, decide_eq_false h16]; rfl)
        clear E
        rcases ht with rfl | rfl | rfl | rfl
        all_goals
          go_enter Tryz.func131, Tryz.ntmps131
          go_wp2_with fail
          refine (c _).mono ?_
          rintro e w1 ⟨rfl, rfl⟩
          go_wp2
          go_ret
          exact ⟨ret_bool (by rw [E'.out]), rfl⟩
set_option maxRecDepth 100000 in
set_option maxHeartbeats 1600000 in
theorem has2_any (op t : Int) (w : World) : Calls Tryz.prog 131 #[.int .i64 op, .int .i64 t, .int .i64 2] w fun e w' => e = .returned (.bool (has2 op t)) ∧ w' = w := by
  have c := type_any t
  cases hT : tyB t with
  | false =>
    have E := hide (show has2 op t = false by unfold has2; rw [hT]; rfl)
    rw [hT] at c
    clear hT
    go_enter Tryz.func131, Tryz.ntmps131
    go_wp2_with fail
    refine (c _).mono ?_
    rintro e w1 ⟨rfl, rfl⟩
    go_wp2
    go_ret
    exact ⟨ret_bool (by rw [E.out]), rfl⟩
  | true =>
    have ht : t = 1 ∨ t = 2 ∨ t = 3 ∨ t = 4 := by
      unfold tyB at hT
      rw [Bool.and_eq_true] at hT
      have h1 := of_decide_eq_true hT.1
      have h2 := of_decide_eq_true hT.2
      omega
    rw [hT] at c
    by_cases ho : 1 ≤ op ∧ op ≤ 14
    · have : op = 1 ∨ op = 2 ∨ op = 3 ∨ op = 4 ∨ op = 5 ∨ op = 6 ∨ op = 7 ∨ op = 8 ∨ op = 9 ∨ op = 10 ∨ op = 11 ∨ op = 12 ∨ op = 13 ∨ op = 14 := by omega
      clear ho hT
      rcases this with rfl | rfl | rfl | rfl | rfl | rfl | rfl | rfl | rfl | rfl | rfl | rfl | rfl | rfl <;> rcases ht with rfl | rfl | rfl | rfl
      all_goals
        go_enter Tryz.func131, Tryz.ntmps131
        go_wp2_with fail
        refine (c _).mono ?_
        rintro e w1 ⟨rfl, rfl⟩
        go_wp2
        go_ret
        exact ⟨ret_bool (by decide), rfl⟩
    · have E := hide (show has2 op t = false by
        unfold has2
        rw [hT, if_neg (by omega), if_neg (by omega), if_neg (by omega), decide_eq_false (by omega)]; rfl)
      have n1 : ¬ op = 1 := by omega
      have n2 : ¬ op = 2 := by omega
      have n3 : ¬ op = 3 := by omega
      have n4 : ¬ op = 4 := by omega
      have n5 : ¬ op = 5 := by omega
      have n6 : ¬ op = 6 := by omega
      have n7 : ¬ op = 7 := by omega
      have n8 : ¬ op = 8 := by omega
      have n9 : ¬ op = 9 := by omega
      have n10 : ¬ op = 10 := by omega
      have n11 : ¬ op = 11 := by omega
      have n12 : ¬ op = 12 := by omega
      have n13 : ¬ op = 13 := by omega
      have n14 : ¬ op = 14 := by omega
      clear ho hT
      rcases ht with rfl | rfl | rfl | rfl
      all_goals
        go_enter Tryz.func131, Tryz.ntmps131
        go_wp2_with fail
        refine (c _).mono ?_
        rintro e w1 ⟨rfl, rfl⟩
        go_wp2
        go_ret
        exact ⟨ret_bool (by rw [E.out]; first | rfl | simp [*]), rfl⟩
end Go.Proofs.YtldjiieckddhkaaGreatDoor.Four
namespace Go.Proofs.YtldjiieckddhkaaGreatDoor.Four
open Go.RowKit
theorem has2_op {op t : Int} (h : has2 op t = true) : 1 ≤ op ∧ op ≤ 14 := by
  unfold has2 at h
  rw [Bool.and_eq_true] at h
  have h2 := h.2
  by_cases hc : 1 ≤ op ∧ op ≤ 14
  · exact hc
  · rw [if_neg (by omega), if_neg (by omega), if_neg (by omega)] at h2
    have := of_decide_eq_true h2; omega
theorem has1_op {op t : Int} (h : has1 op t = true) : op = 15 ∨ op = 16 := by
  unfold has1 at h
  rw [Bool.and_eq_true, Bool.or_eq_true, Bool.and_eq_true, Bool.and_eq_true] at h
  rcases h.2 with h | h
  · exact .inl (of_decide_eq_true h.1)
  · exact .inr (of_decide_eq_true h.1)
set_option maxRecDepth 100000 in
set_option maxHeartbeats 1600000 in
theorem twoR_any (op t a b : Int) (w : World) : Calls Tryz.prog 97 #[.int .i64 op, .int .i64 t, .int .i64 a, .int .i64 b] w fun e w' => e = .returned (.tuple #[.int .i64 (twoN op t a b).1, .int .i64 (twoN op t a b).2]) ∧ w' = w := by
  have c := has2_any op t
  have fa := fitsR_any t a
  have fb := fitsR_any t b
  have E := hide (show twoN op t a b = if has2 op t = false then (0, 40) else if fitB t a = false ∨ fitB t b = false then (0, 1) else if (op = 4 ∨ op = 5) ∧ b = 0 then (0, 41) else if 9 ≤ op then (pureN op a b, 0) else (wrN t (pureN op a b), 0) from rfl)
  cases ho : has2 op t with
  | false =>
    rw [if_pos ho] at E
    rw [ho] at c
    clear ho fa fb
    go_enter Tryz.func97, Tryz.ntmps97
    go_wp2_with fail
    refine (c _).mono ?_
    rintro e w1 ⟨rfl, rfl⟩
    go_wp2
    go_ret2
    exact ⟨by rw [E.out]; rfl, rfl⟩
  | true =>
    rw [if_neg (by rw [ho]; decide)] at E
    rw [ho] at c
    have hop := has2_op ho
    clear ho
    cases ha : fitB t a with
    | false =>
      rw [if_pos (.inl ha)] at E
      rw [ha] at fa
      clear ha fb hop
      go_enter Tryz.func97, Tryz.ntmps97
      go_wp2_with fail
      refine (c _).mono ?_
      rintro e w1 ⟨rfl, rfl⟩
      go_wp2_with fail
      refine (fa _).mono ?_
      rintro e w1 ⟨rfl, rfl⟩
      go_wp2
      go_ret2
      exact ⟨by rw [E.out]; rfl, rfl⟩
    | true =>
      rw [ha] at fa
      cases hb : fitB t b with
      | false =>
        rw [if_pos (.inr hb)] at E
        rw [hb] at fb
        clear ha hb hop
        go_enter Tryz.func97, Tryz.ntmps97
        go_wp2_with fail
        refine (c _).mono ?_
        rintro e w1 ⟨rfl, rfl⟩
        go_wp2_with fail
        refine (fa _).mono ?_
        rintro e w1 ⟨rfl, rfl⟩
        go_wp2_with fail
        refine (fb _).mono ?_
        rintro e w1 ⟨rfl, rfl⟩
        go_wp2
        go_ret2
        exact ⟨by rw [E.out]; rfl, rfl⟩
      | true =>
        rw [hb] at fb
        rw [if_neg (by rw [ha, hb]; decide)] at E
        have ra := hide (R_of_fit ha)
        have rb := hide (R_of_fit hb)
        clear ha hb
        by_cases hz : (op = 4 ∨ op = 5) ∧ b = 0
        · rw [if_pos hz] at E
          obtain ⟨h45, rfl⟩ := hz
          clear hop ra rb
          rcases h45 with rfl | rfl
          all_goals
            go_enter Tryz.func97, Tryz.ntmps97
            go_wp2_with fail
            refine (c _).mono ?_
            rintro e w1 ⟨rfl, rfl⟩
            go_wp2_with fail
            refine (fa _).mono ?_
            rintro e w1 ⟨rfl, rfl⟩
            go_wp2_with fail
            refine (fb _).mono ?_
            rintro e w1 ⟨rfl, rfl⟩
            go_wp2
            go_ret2
            exact ⟨by rw [E.out]; rfl, rfl⟩
        · rw [if_neg hz] at E
          have p := pure_any op a b hop ra.out rb.out (fun h hb => hz ⟨h, hb⟩)
          have q := wrappedR_any t (pureN op a b)
          have hcase : (op = 4 ∧ ¬ b = 0) ∨ (op = 5 ∧ ¬ b = 0) ∨ (¬ op = 4 ∧ ¬ op = 5) := by omega
          generalize pureN op a b = n at *
          clear hz hop ra rb
          by_cases h9 : 9 ≤ op
          · rw [if_pos h9] at E
            clear q
            have n4 : ¬ op = 4 := by omega
            have n5 : ¬ op = 5 := by omega
            clear hcase
            go_enter Tryz.func97, Tryz.ntmps97
            go_wp2_with fail
            refine (c _).mono ?_
            rintro e w1 ⟨rfl, rfl⟩
            go_wp2_with fail
            refine (fa _).mono ?_
            rintro e w1 ⟨rfl, rfl⟩
            go_wp2_with fail
            refine (fb _).mono ?_
            rintro e w1 ⟨rfl, rfl⟩
            go_wp2_with fail
            refine (p _).mono ?_
            rintro e w1 ⟨rfl, rfl⟩
            go_wp2
            go_ret2
            exact ⟨by rw [E.out]; rfl, rfl⟩
          · rw [if_neg h9] at E
            rcases hcase with ⟨rfl, n5⟩ | ⟨rfl, n5⟩ | ⟨n4, n5⟩
            all_goals
              go_enter Tryz.func97, Tryz.ntmps97
              go_wp2_with fail
              refine (c _).mono ?_
              rintro e w1 ⟨rfl, rfl⟩
              go_wp2_with fail
              refine (fa _).mono ?_
              rintro e w1 ⟨rfl, rfl⟩
              go_wp2_with fail
              refine (fb _).mono ?_
              rintro e w1 ⟨rfl, rfl⟩
              go_wp2_with fail
              refine (p _).mono ?_
              rintro e w1 ⟨rfl, rfl⟩
              go_wp2_with fail
              refine (q _).mono ?_
              rintro e w1 ⟨rfl, rfl⟩
              go_wp2
              go_ret2
              exact ⟨by rw [E.out]; rfl, rfl⟩
set_option maxRecDepth 100000 in
set_option maxHeartbeats 1600000 in
theorem oneR_any (op t a : Int) (w : World) : Calls Tryz.prog 96 #[.int .i64 op, .int .i64 t, .int .i64 a] w fun e w' => e = .returned (.tuple #[.int .i64 (oneN op t a).1, .int .i64 (oneN op t a).2]) ∧ w' = w := by
  have c := has1_any op t
  have fa := fitsR_any t a
  have E := hide (show oneN op t a = if has1 op t = false then (0, 40) else if fitB t a = false then (0, 1) else if op = 15 then (wrN t (-a), 0) else if t = 1 then (1 - a, 0) else (wrN t (-1 - a), 0) from rfl)
  cases ho : has1 op t with
  | false =>
    rw [if_pos ho] at E
    rw [ho] at c
    clear ho fa
    go_enter Tryz.func96, Tryz.ntmps96
    go_wp2_with fail
    refine (c _).mono ?_
    rintro e w1 ⟨rfl, rfl⟩
    go_wp2
    go_ret2
    exact ⟨by rw [E.out]; rfl, rfl⟩
  | true =>
    rw [if_neg (by rw [ho]; decide)] at E
    rw [ho] at c
    clear ho
    cases ha : fitB t a with
    | false =>
      rw [if_pos ha] at E
      rw [ha] at fa
      clear ha
      go_enter Tryz.func96, Tryz.ntmps96
      go_wp2_with fail
      refine (c _).mono ?_
      rintro e w1 ⟨rfl, rfl⟩
      go_wp2_with fail
      refine (fa _).mono ?_
      rintro e w1 ⟨rfl, rfl⟩
      go_wp2
      go_ret2
      exact ⟨by rw [E.out]; rfl, rfl⟩
    | true =>
      rw [ha] at fa
      rw [if_neg (by rw [ha]; decide)] at E
      have ra := R_of_fit ha
      have e1 : wrap64 (-a) = -a := w_neg ra
      have e2 : wrap64 (-1 - a) = -1 - a := w_sub (a := -1) ⟨by decide, by decide⟩ ra
      have e3 : wrap64 (1 - a) = 1 - a := w_sub (a := 1) ⟨by decide, by decide⟩ ra
      have q := wrappedR_any t
      clear ha ra
      by_cases h15 : op = 15
      · subst h15
        rw [if_pos rfl] at E
        clear e2 e3
        go_enter Tryz.func96, Tryz.ntmps96
        go_wp2_with fail
        refine (c _).mono ?_
        rintro e w1 ⟨rfl, rfl⟩
        go_wp2_with fail
        refine (fa _).mono ?_
        rintro e w1 ⟨rfl, rfl⟩
        go_wp2_with fail
        refine (q _ _).mono ?_
        rintro e w1 ⟨rfl, rfl⟩
        go_wp2
        go_ret2
        exact ⟨by rw [E.out]; first | rfl | rw [e1]; rfl, rfl⟩
      · rw [if_neg h15] at E
        by_cases h1 : t = 1
        · subst h1
          rw [if_pos rfl] at E
          clear e1 e2
          go_enter Tryz.func96, Tryz.ntmps96
          go_wp2_with fail
          refine (c _).mono ?_
          rintro e w1 ⟨rfl, rfl⟩
          go_wp2_with fail
          refine (fa _).mono ?_
          rintro e w1 ⟨rfl, rfl⟩
          go_wp2
          go_ret2
          exact ⟨by rw [E.out]; first | rfl | rw [e3]; rfl, rfl⟩
        · rw [if_neg h1] at E
          clear e1 e3
          go_enter Tryz.func96, Tryz.ntmps96
          go_wp2_with fail
          refine (c _).mono ?_
          rintro e w1 ⟨rfl, rfl⟩
          go_wp2_with fail
          refine (fa _).mono ?_
          rintro e w1 ⟨rfl, rfl⟩
          go_wp2_with fail
          refine (q _ _).mono ?_
          rintro e w1 ⟨rfl, rfl⟩
          go_wp2
          go_ret2
          exact ⟨by rw [E.out]; first | rfl | rw [e2]; rfl, rfl⟩
set_option maxRecDepth 100000 in
set_option maxHeartbeats 1600000 in
theorem resR_any (op t : Int) (w : World) : Calls Tryz.prog 95 #[.int .i64 op, .int .i64 t] w fun e w' => e = .returned (.tuple #[.int .i64 (resN op t).1, .int .i64 (resN op t).2]) ∧ w' = w := by
  have c := has1_any op t
  have d := has2_any op t
  have E := hide (show resN op t = if has1 op t = false ∧ has2 op t = false then (0, 40) else if 9 ≤ op ∧ op ≤ 14 then (1, 0) else (t, 0) from rfl)
  cases h1 : has1 op t with
  | false =>
    rw [h1] at c
    cases h2 : has2 op t with
    | false =>
      rw [if_pos ⟨h1, h2⟩] at E
      rw [h2] at d
      clear h1 h2
      go_enter Tryz.func95, Tryz.ntmps95
      go_wp2_with fail
      refine (c _).mono ?_
      rintro e w1 ⟨rfl, rfl⟩
      go_wp2_with fail
      refine (d _).mono ?_
      rintro e w1 ⟨rfl, rfl⟩
      go_wp2
      go_ret2
      exact ⟨by rw [E.out]; rfl, rfl⟩
    | true =>
      rw [if_neg (fun h => by rw [h2] at h; exact absurd h.2 (by decide))] at E
      rw [h2] at d
      have hop := has2_op h2
      clear h1 h2
      by_cases h9 : 9 ≤ op
      · rw [if_pos ⟨h9, hop.2⟩] at E
        have h14 : op ≤ 14 := hop.2
        clear hop
        go_enter Tryz.func95, Tryz.ntmps95
        go_wp2_with fail
        refine (c _).mono ?_
        rintro e w1 ⟨rfl, rfl⟩
        go_wp2_with fail
        refine (d _).mono ?_
        rintro e w1 ⟨rfl, rfl⟩
        go_wp2
        go_ret2
        exact ⟨by rw [E.out]; rfl, rfl⟩
      · rw [if_neg (fun h => h9 h.1)] at E
        clear hop
        go_enter Tryz.func95, Tryz.ntmps95
        go_wp2_with fail
        refine (c _).mono ?_
        rintro e w1 ⟨rfl, rfl⟩
        go_wp2_with fail
        refine (d _).mono ?_
        rintro e w1 ⟨rfl, rfl⟩
        go_wp2
        go_ret2
        exact ⟨by rw [E.out]; rfl, rfl⟩
  | true =>
    rw [if_neg (fun h => by rw [h1] at h; exact absurd h.1 (by decide))] at E
    have hop := has1_op h1
    rw [if_neg (by omega)] at E
    rw [h1] at c
    clear h1 d
    rcases hop with rfl | rfl
    all_goals
      go_enter Tryz.func95, Tryz.ntmps95
      go_wp2_with fail
      refine (c _).mono ?_
      rintro e w1 ⟨rfl, rfl⟩
      go_wp2
      go_ret2
      exact ⟨by rw [E.out]; rfl, rfl⟩
end Go.Proofs.YtldjiieckddhkaaGreatDoor.Four
namespace Go.Proofs.YtldjiieckddhkaaGreatDoor.Four
open Go.RowKit
theorem seventeen {k : Nat} (h : k < 17) : k = 0 ∨ k = 1 ∨ k = 2 ∨ k = 3 ∨ k = 4 ∨ k = 5 ∨ k = 6 ∨ k = 7 ∨ k = 8 ∨ k = 9 ∨ k = 10 ∨ k = 11 ∨ k = 12 ∨ k = 13 ∨ k = 14 ∨ k = 15 ∨ k = 16 := by omega
theorem four {t : Int} (h : tyB t = true) : t = 1 ∨ t = 2 ∨ t = 3 ∨ t = 4 := by
  unfold tyB at h
  rw [Bool.and_eq_true] at h
  have h1 := of_decide_eq_true h.1
  have h2 := of_decide_eq_true h.2
  omega
theorem row_has (k : Nat) (hk : k < 17) (t : Int) : has2 (k : Int) t = (bitT (rowS k) t && (Nat.ble 1 k && Nat.ble k 14)) ∧ has1 (k : Int) t = (bitT (rowS k) t && Nat.ble 15 k) := by
  cases hT : tyB t with
  | false =>
    have e : bitT (rowS k) t = false := by unfold bitT; rw [hT]; rfl
    unfold has2 has1
    rw [e, hT]
    exact ⟨rfl, rfl⟩
  | true =>
    rcases seventeen hk with rfl | rfl | rfl | rfl | rfl | rfl | rfl | rfl | rfl | rfl | rfl | rfl | rfl | rfl | rfl | rfl | rfl <;> rcases four hT with rfl | rfl | rfl | rfl <;> decide
theorem row_none (t : Int) : bitT (rowS 0) t = false := by
  cases hT : tyB t with
  | false => unfold bitT; rw [hT]; rfl
  | true => rcases four hT with rfl | rfl | rfl | rfl <;> decide
theorem out_has {op : Int} (h : op < 0 ∨ 17 ≤ op) (t : Int) : has2 op t = false ∧ has1 op t = false := by
  constructor
  · cases e : has2 op t with
    | false => rfl
    | true => have := has2_op e; omega
  · cases e : has1 op t with
    | false => rfl
    | true => have := has1_op e; omega
theorem enter36 (args : Array Value) (W : World) : (callFunc 58 args).run Tryz.prog W = .ok (.enter 58 args) W := by simp [go_sem]
theorem enter37 (args : Array Value) (W : World) : (callFunc 59 args).run Tryz.prog W = .ok (.enter 59 args) W := by simp [go_sem]
theorem enter38 (args : Array Value) (W : World) : (callFunc 60 args).run Tryz.prog W = .ok (.enter 60 args) W := by simp [go_sem]
theorem enter39 (args : Array Value) (W : World) : (callFunc 61 args).run Tryz.prog W = .ok (.enter 61 args) W := by simp [go_sem]
theorem enter40 (args : Array Value) (W : World) : (callFunc 62 args).run Tryz.prog W = .ok (.enter 62 args) W := by simp [go_sem]
theorem enter41 (args : Array Value) (W : World) : (callFunc 63 args).run Tryz.prog W = .ok (.enter 63 args) W := by simp [go_sem]
theorem enter42 (args : Array Value) (W : World) : (callFunc 64 args).run Tryz.prog W = .ok (.enter 64 args) W := by simp [go_sem]
theorem enter43 (args : Array Value) (W : World) : (callFunc 65 args).run Tryz.prog W = .ok (.enter 65 args) W := by simp [go_sem]
theorem enter44 (args : Array Value) (W : World) : (callFunc 66 args).run Tryz.prog W = .ok (.enter 66 args) W := by simp [go_sem]
theorem enter46 (args : Array Value) (W : World) : (callFunc 68 args).run Tryz.prog W = .ok (.enter 68 args) W := by simp [go_sem]
theorem enter47 (args : Array Value) (W : World) : (callFunc 69 args).run Tryz.prog W = .ok (.enter 69 args) W := by simp [go_sem]
theorem enter48 (args : Array Value) (W : World) : (callFunc 70 args).run Tryz.prog W = .ok (.enter 70 args) W := by simp [go_sem]
theorem enter49 (args : Array Value) (W : World) : (callFunc 71 args).run Tryz.prog W = .ok (.enter 71 args) W := by simp [go_sem]
theorem enter50 (args : Array Value) (W : World) : (callFunc 72 args).run Tryz.prog W = .ok (.enter 72 args) W := by simp [go_sem]
theorem enter51 (args : Array Value) (W : World) : (callFunc 73 args).run Tryz.prog W = .ok (.enter 73 args) W := by simp [go_sem]
theorem enter52 (args : Array Value) (W : World) : (callFunc 74 args).run Tryz.prog W = .ok (.enter 74 args) W := by simp [go_sem]
theorem fn_two (k : Nat) (h1 : 1 ≤ k) (h14 : k ≤ 14) (a b : Int) (ra : R a) (rb : R b) (h0 : rowDiv k = true → b ≠ 0) :
    (∀ args W, (callFunc (fnNo k) args).run Tryz.prog W = .ok (.enter (fnNo k) args) W) ∧ ∀ W, Calls Tryz.prog (fnNo k) #[.int .i64 a, .int .i64 b] W fun e w' => e = .returned (.int .i64 (pureN (k : Int) a b)) ∧ w' = W := by
  have : k = 1 ∨ k = 2 ∨ k = 3 ∨ k = 4 ∨ k = 5 ∨ k = 6 ∨ k = 7 ∨ k = 8 ∨ k = 9 ∨ k = 10 ∨ k = 11 ∨ k = 12 ∨ k = 13 ∨ k = 14 := by omega
  rcases this with rfl | rfl | rfl | rfl | rfl | rfl | rfl | rfl | rfl | rfl | rfl | rfl | rfl | rfl
  · exact ⟨enter36, fun W => add_any a b ra rb W⟩
  · exact ⟨enter37, fun W => sub_any a b ra rb W⟩
  · exact ⟨enter38, fun W => mul_any a b ra rb W⟩
  · exact ⟨enter39, fun W => div_any a b ra (h0 rfl) W⟩
  · exact ⟨enter40, fun W => mod_any a b (h0 rfl) W⟩
  · exact ⟨enter41, fun W => and_any a b  W⟩
  · exact ⟨enter42, fun W => or_any a b  W⟩
  · exact ⟨enter43, fun W => xor_any a b  W⟩
  · exact ⟨enter44, fun W => eq_any a b  W⟩
  · exact ⟨enter46, fun W => ne_any a b  W⟩
  · exact ⟨enter47, fun W => lt_any a b  W⟩
  · exact ⟨enter48, fun W => le_any a b  W⟩
  · exact ⟨enter49, fun W => gt_any a b  W⟩
  · exact ⟨enter50, fun W => ge_any a b  W⟩
theorem two_wr (k : Nat) (h1 : 1 ≤ k) (h14 : k ≤ 14) (t a b : Int) : (wrN (if rowCmp k then 1 else t) (pureN (k : Int) a b), (0 : Int)) = if 9 ≤ (k : Int) then (pureN (k : Int) a b, 0) else (wrN t (pureN (k : Int) a b), 0) := by
  by_cases h9 : 9 ≤ k
  · have e : rowCmp k = true := by unfold rowCmp; rw [Nat.ble_eq_true_of_le h9, Nat.ble_eq_true_of_le h14]; rfl
    obtain ⟨c, hc⟩ := pure_flag (op := (k : Int)) (a := a) (b := b) (by omega)
    rw [e, if_pos rfl, if_pos (show 9 ≤ (k : Int) by omega), hc, wr_fit (flag_fit c)]
  · have e : rowCmp k = false := by
      unfold rowCmp
      cases hx : Nat.ble 9 k with
      | false => rfl
      | true => exact absurd (Nat.le_of_ble_eq_true hx) h9
    rw [e, if_neg (show ¬ 9 ≤ (k : Int) by omega)]; rfl
theorem rowDiv_iff (k : Nat) : rowDiv k = true ↔ ((k : Int) = 4 ∨ (k : Int) = 5) := by
  unfold rowDiv
  rw [Bool.or_eq_true, Nat.beq_eq, Nat.beq_eq]
  omega
theorem two_any (op t a b : Int) (w : World) (hg : Glo w) : Calls Tryz.prog 21 #[.int .i64 op, .int .i64 t, .int .i64 a, .int .i64 b] w fun e w' => e = .returned (.tuple #[.int .i64 (twoN op t a b).1, .int .i64 (twoN op t a b).2]) ∧ Below w.heap.size w w' := by
  have E : twoN op t a b = if has2 op t = false then (0, 40) else if fitB t a = false ∨ fitB t b = false then (0, 1) else if (op = 4 ∨ op = 5) ∧ b = 0 then (0, 41) else if 9 ≤ op then (pureN op a b, 0) else (wrN t (pureN op a b), 0) := rfl
  by_cases ho : op < 0 ∨ 17 ≤ op
  · rw [E, if_pos (out_has ho t).1]
    exact two_no op t a b w (find_out op t w ho)
  · obtain ⟨k, rfl⟩ : ∃ k : Nat, op = (k : Int) := ⟨op.toNat, by omega⟩
    have hk : k < 17 := by omega
    obtain ⟨e2, _⟩ := row_has k hk t
    have cf := find_in t w k hk
    cases hbit : bitT (rowS k) t with
    | false =>
      rw [hbit] at e2 cf
      rw [Bool.false_and] at e2
      rw [E, if_pos e2]
      exact two_no _ t a b w cf
    | true =>
      rw [hbit] at cf e2
      rw [if_pos rfl] at cf
      have hk1 : 1 ≤ k := by
        rcases Nat.eq_zero_or_pos k with rfl | h
        · rw [row_none] at hbit; exact absurd hbit (by decide)
        · exact h
      by_cases h14 : k ≤ 14
      · have e2' : has2 (k : Int) t = true := by rw [e2, Nat.ble_eq_true_of_le hk1, Nat.ble_eq_true_of_le h14]; rfl
        have er : rowV k = #[.int .u8 (rowS k), .bool (rowCmp k), .bool (rowDiv k), .func (.func (fnNo k)) #[] #[], .nilFunc] := by
          have u : rowTwo k = .func (.func (fnNo k)) #[] #[] := by unfold rowTwo; rw [Nat.ble_eq_true_of_le hk1, Nat.ble_eq_true_of_le h14]; rfl
          have v : rowOne k = .nilFunc := by
            unfold rowOne
            cases hx : Nat.ble 15 k with
            | false => rfl
            | true => have := Nat.le_of_ble_eq_true hx; omega
          unfold rowV; rw [u, v]
        rw [er] at cf
        rw [E, if_neg (by rw [e2']; decide)]
        by_cases hr : fitB t a = false ∨ fitB t b = false
        · rw [if_pos hr]
          exact two_range _ t a b _ _ _ _ w hg hr cf
        · rw [if_neg hr]
          have ha : fitB t a = true := by cases h : fitB t a with
            | false => exact absurd (.inl h) hr
            | true => rfl
          have hb : fitB t b = true := by cases h : fitB t b with
            | false => exact absurd (.inr h) hr
            | true => rfl
          by_cases hz : ((k : Int) = 4 ∨ (k : Int) = 5) ∧ b = 0
          · rw [if_pos hz]
            obtain ⟨h45, rfl⟩ := hz
            rw [(rowDiv_iff k).2 h45] at cf
            exact two_zero_div _ t a _ _ _ w hg ha hb cf
          · rw [if_neg hz, ← two_wr k hk1 h14 t a b]
            have h0 : rowDiv k = true → ¬ b = 0 := fun h hb0 => hz ⟨(rowDiv_iff k).1 h, hb0⟩
            obtain ⟨f1, f2⟩ := fn_two k hk1 h14 a b (R_of_fit ha) (R_of_fit hb) h0
            exact two_core _ t a b _ _ _ _ _ f1 w hg ha hb h0 f2 cf
      · have e2' : has2 (k : Int) t = false := by
          rw [e2]
          cases hx : Nat.ble k 14 with
          | false => simp
          | true => exact absurd (Nat.le_of_ble_eq_true hx) h14
        have er : rowV k = #[.int .u8 (rowS k), .bool (rowCmp k), .bool (rowDiv k), .nilFunc, .func (.func (fnNo k)) #[] #[]] := by
          have u : rowTwo k = .nilFunc := by
            unfold rowTwo
            cases hx : Nat.ble k 14 with
            | false => simp
            | true => exact absurd (Nat.le_of_ble_eq_true hx) h14
          have v : rowOne k = .func (.func (fnNo k)) #[] #[] := by unfold rowOne; rw [Nat.ble_eq_true_of_le (show 15 ≤ k by omega)]; rfl
          unfold rowV; rw [u, v]
        rw [er] at cf
        rw [E, if_pos e2']
        exact two_nil _ t a b _ _ _ _ w cf
theorem one_any (op t a : Int) (w : World) (hg : Glo w) : Calls Tryz.prog 129 #[.int .i64 op, .int .i64 t, .int .i64 a] w fun e w' => e = .returned (.tuple #[.int .i64 (oneN op t a).1, .int .i64 (oneN op t a).2]) ∧ Below w.heap.size w w' := by
  have E : oneN op t a = if has1 op t = false then (0, 40) else if fitB t a = false then (0, 1) else if op = 15 then (wrN t (-a), 0) else if t = 1 then (1 - a, 0) else (wrN t (-1 - a), 0) := rfl
  by_cases ho : op < 0 ∨ 17 ≤ op
  · rw [E, if_pos (out_has ho t).2]
    exact one_no op t a w (find_out op t w ho)
  · obtain ⟨k, rfl⟩ : ∃ k : Nat, op = (k : Int) := ⟨op.toNat, by omega⟩
    have hk : k < 17 := by omega
    obtain ⟨_, e2⟩ := row_has k hk t
    have cf := find_in t w k hk
    cases hbit : bitT (rowS k) t with
    | false =>
      rw [hbit] at e2 cf
      rw [Bool.false_and] at e2
      rw [E, if_pos e2]
      exact one_no _ t a w cf
    | true =>
      rw [hbit] at cf e2
      rw [if_pos rfl] at cf
      have hk1 : 1 ≤ k := by
        rcases Nat.eq_zero_or_pos k with rfl | h
        · rw [row_none] at hbit; exact absurd hbit (by decide)
        · exact h
      by_cases h14 : k ≤ 14
      · have e2' : has1 (k : Int) t = false := by
          rw [e2]
          cases hx : Nat.ble 15 k with
          | false => rfl
          | true => have := Nat.le_of_ble_eq_true hx; omega
        have er : rowV k = #[.int .u8 (rowS k), .bool (rowCmp k), .bool (rowDiv k), .func (.func (fnNo k)) #[] #[], .nilFunc] := by
          have u : rowTwo k = .func (.func (fnNo k)) #[] #[] := by unfold rowTwo; rw [Nat.ble_eq_true_of_le hk1, Nat.ble_eq_true_of_le h14]; rfl
          have v : rowOne k = .nilFunc := by
            unfold rowOne
            cases hx : Nat.ble 15 k with
            | false => rfl
            | true => have := Nat.le_of_ble_eq_true hx; omega
          unfold rowV; rw [u, v]
        rw [er] at cf
        rw [E, if_pos e2']
        exact one_nil _ t a _ _ _ _ w cf
      · have e2' : has1 (k : Int) t = true := by rw [e2, Nat.ble_eq_true_of_le (show 15 ≤ k by omega)]; rfl
        have er : rowV k = #[.int .u8 (rowS k), .bool (rowCmp k), .bool (rowDiv k), .nilFunc, .func (.func (fnNo k)) #[] #[]] := by
          have u : rowTwo k = .nilFunc := by
            unfold rowTwo
            cases hx : Nat.ble k 14 with
            | false => simp
            | true => exact absurd (Nat.le_of_ble_eq_true hx) h14
          have v : rowOne k = .func (.func (fnNo k)) #[] #[] := by unfold rowOne; rw [Nat.ble_eq_true_of_le (show 15 ≤ k by omega)]; rfl
          unfold rowV; rw [u, v]
        rw [er] at cf
        rw [E, if_neg (by rw [e2']; decide)]
        cases ha : fitB t a with
        | false =>
          rw [if_pos rfl]
          exact one_range _ t a _ _ _ _ w hg ha cf
        | true =>
          rw [if_neg (by decide)]
          have h1516 : k = 15 ∨ k = 16 := by omega
          rcases h1516 with rfl | rfl
          · rw [if_pos (show ((15 : Nat) : Int) = 15 from rfl)]
            exact one_core _ t a _ (-a) _ _ _ enter51 w hg ha (fun W => neg_any a (R_of_fit ha) W) cf
          · rw [if_neg (show ¬ ((16 : Nat) : Int) = 15 by decide)]
            by_cases h1 : t = 1
            · subst h1
              rw [if_pos rfl]
              have e : wrN 1 (-1 - a) = 1 - a := by
                rw [wr_one]
                rcases fit_one ha with rfl | rfl <;> decide
              have := one_core 16 1 a _ (-1 - a) _ _ _ enter52 w hg ha (fun W => not_any a (R_of_fit ha) W) cf
              rw [show (if rowCmp 16 = true then 1 else 1 : Int) = 1 from rfl, e] at this
              exact this
            · rw [if_neg h1]
              exact one_core _ t a _ (-1 - a) _ _ _ enter52 w hg ha (fun W => not_any a (R_of_fit ha) W) cf
theorem res_any (op t : Int) (w : World) : Calls Tryz.prog 92 #[.int .i64 op, .int .i64 t] w fun e w' => e = .returned (.tuple #[.int .i64 (resN op t).1, .int .i64 (resN op t).2]) ∧ Below w.heap.size w w' := by
  have E : resN op t = if has1 op t = false ∧ has2 op t = false then (0, 40) else if 9 ≤ op ∧ op ≤ 14 then (1, 0) else (t, 0) := rfl
  by_cases ho : op < 0 ∨ 17 ≤ op
  · rw [E, if_pos (out_has ho t).symm]
    exact res_no op t w (find_out op t w ho)
  · obtain ⟨k, rfl⟩ : ∃ k : Nat, op = (k : Int) := ⟨op.toNat, by omega⟩
    have hk : k < 17 := by omega
    obtain ⟨e2, e1⟩ := row_has k hk t
    have cf := find_in t w k hk
    cases hbit : bitT (rowS k) t with
    | false =>
      rw [hbit] at e1 e2 cf
      rw [Bool.false_and] at e1 e2
      rw [E, if_pos ⟨e1, e2⟩]
      exact res_no _ t w cf
    | true =>
      rw [hbit] at cf e1 e2
      rw [if_pos rfl] at cf
      have hk1 : 1 ≤ k := by
        rcases Nat.eq_zero_or_pos k with rfl | h
        · rw [row_none] at hbit; exact absurd hbit (by decide)
        · exact h
      have hn : ¬ (has1 (k : Int) t = false ∧ has2 (k : Int) t = false) := fun h => by
        by_cases h14 : k ≤ 14
        · rw [e2, Nat.ble_eq_true_of_le hk1, Nat.ble_eq_true_of_le h14] at h
          exact absurd h.2 (by decide)
        · rw [e1, Nat.ble_eq_true_of_le (show 15 ≤ k by omega)] at h
          exact absurd h.1 (by decide)
      have h1 : (rowTwo k).oneCell' = true := by unfold rowTwo; split <;> rfl
      have h2 : (rowOne k).oneCell' = true := by unfold rowOne; split <;> rfl
      have c := res_ok (k : Int) t _ _ _ _ _ h1 h2 w cf
      have e : (if rowCmp k = true then 1 else t : Int) = (if 9 ≤ (k : Int) ∧ (k : Int) ≤ 14 then (1, 0) else (t, 0) : Int × Int).1 ∧ (if 9 ≤ (k : Int) ∧ (k : Int) ≤ 14 then (1, 0) else (t, 0) : Int × Int).2 = 0 := by
        by_cases h9 : 9 ≤ k ∧ k ≤ 14
        · have e : rowCmp k = true := by unfold rowCmp; rw [Nat.ble_eq_true_of_le h9.1, Nat.ble_eq_true_of_le h9.2]; rfl
          rw [e, if_pos (show 9 ≤ (k : Int) ∧ (k : Int) ≤ 14 by omega)]; exact ⟨rfl, rfl⟩
        · have e : rowCmp k = false := by
            cases hx : rowCmp k with
            | false => rfl
            | true =>
              unfold rowCmp at hx
              rw [Bool.and_eq_true] at hx
              exact absurd ⟨Nat.le_of_ble_eq_true hx.1, Nat.le_of_ble_eq_true hx.2⟩ h9
          rw [e, if_neg (show ¬ (9 ≤ (k : Int) ∧ (k : Int) ≤ 14) by omega)]; exact ⟨rfl, rfl⟩
      rw [E, if_neg hn, ← e.1, e.2]
      exact c
end Go.Proofs.YtldjiieckddhkaaGreatDoor.Four
namespace Go.Proofs.YtldjiieckddhkaaGreatDoor.Four
open Go.RowKit
end Go.Proofs.YtldjiieckddhkaaGreatDoor.Four
