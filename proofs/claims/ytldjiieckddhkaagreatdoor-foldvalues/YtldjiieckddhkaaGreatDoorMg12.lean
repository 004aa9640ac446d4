/- N4ConvW | TyW -/
import Derived.Test.YtldjiieckddhkaaGreatDoorMg11
import Derived.Test.YtldjiieckddhkaaGreatDoorMg8
namespace Go.Proofs.YtldjiieckddhkaaGreatDoor.Four
open Go.RowKit
set_option maxRecDepth 100000 in
set_option maxHeartbeats 1600000 in
theorem conv_any (f t n : Int) (w : World) (hg : Glo w) : Calls Tryz.prog 91 #[.int .i64 f, .int .i64 t, .int .i64 n] w fun e w' => e = .returned (.tuple #[.int .i64 (convN f t n).1, .int .i64 (convN f t n).2]) ∧ w' = w := by
  have c := isType_any
  have d := wrapped_any t n
  have b := fits_any f n w hg
  have E := hide (show convN f t n = if tyB f = false ∨ tyB t = false ∨ (decide (f = 1) != decide (t = 1)) = true then (0, 40) else if fitB f n = false then (0, 1) else (wrN t n, 0) from rfl)
  clear hg
  generalize fitB f n = B at *
  have c1 := c f
  have c2 := c t
  clear c
  cases hf : tyB f with
  | false =>
    rw [if_pos (.inl hf)] at E
    rw [hf] at c1
    clear hf c2 d b
    go_enter Tryz.func91, Tryz.ntmps91
    go_wp2_with fail
    refine (c1 _).mono ?_
    rintro e w1 ⟨rfl, rfl⟩
    go_wp2
    go_ret2
    exact ⟨by rw [E.out]; rfl, rfl⟩
  | true =>
    rw [hf] at c1
    cases ht : tyB t with
    | false =>
      rw [if_pos (.inr (.inl ht))] at E
      rw [ht] at c2
      clear hf ht d b
      go_enter Tryz.func91, Tryz.ntmps91
      go_wp2_with fail
      refine (c1 _).mono ?_
      rintro e w1 ⟨rfl, rfl⟩
      go_wp2_with fail
      refine (c2 _).mono ?_
      rintro e w1 ⟨rfl, rfl⟩
      go_wp2
      go_ret2
      exact ⟨by rw [E.out]; rfl, rfl⟩
    | true =>
      rw [ht] at c2
      by_cases hx : (decide (f = 1) != decide (t = 1)) = true
      · rw [if_pos (.inr (.inr hx))] at E
        have hx' : (f = 1 ∧ ¬ t = 1) ∨ (¬ f = 1 ∧ t = 1) := by
          by_cases h1 : f = 1 <;> by_cases h2 : t = 1 <;> simp [h1, h2] at hx ⊢
        have k1 : ¬ f = 1 → (f == 1) = false := fun h => by simp [h]
        have k2 : ¬ t = 1 → (t == 1) = false := fun h => by simp [h]
        clear hf ht d b hx
        have hx2 : (f = 1 ∧ (t == 1) = false) ∨ ((f == 1) = false ∧ t = 1) := hx'.imp (fun h => ⟨h.1, k2 h.2⟩) (fun h => ⟨k1 h.1, h.2⟩)
        clear k1 k2 hx'
        rcases hx2 with ⟨rfl, h2⟩ | ⟨h1, rfl⟩
        all_goals
          go_enter Tryz.func91, Tryz.ntmps91
          go_wp2_with fail
          refine (c1 _).mono ?_
          rintro e w1 ⟨rfl, rfl⟩
          go_wp2_with fail
          refine (c2 _).mono ?_
          rintro e w1 ⟨rfl, rfl⟩
          go_wp2
          go_ret2
          exact ⟨by rw [E.out]; rfl, rfl⟩
      · rw [if_neg (by rw [hf, ht]; simp only [Bool.true_eq_false, false_or]; exact hx)] at E
        have hx' : (f = 1 ∧ t = 1) ∨ (¬ f = 1 ∧ ¬ t = 1) := by
          by_cases h1 : f = 1 <;> by_cases h2 : t = 1 <;> simp [h1, h2] at hx ⊢
        have k1 : ¬ f = 1 → (f == 1) = false := fun h => by simp [h]
        have k2 : ¬ t = 1 → (t == 1) = false := fun h => by simp [h]
        clear hf ht hx
        cases B with
        | false =>
          rw [if_pos rfl] at E
          clear d
          have hx2 : (f = 1 ∧ t = 1) ∨ ((f == 1) = false ∧ (t == 1) = false) := hx'.imp id (fun h => ⟨k1 h.1, k2 h.2⟩)
          clear k1 k2 hx'
          rcases hx2 with ⟨rfl, rfl⟩ | ⟨h1, h2⟩
          all_goals
            go_enter Tryz.func91, Tryz.ntmps91
            go_wp2_with fail
            refine (c1 _).mono ?_
            rintro e w1 ⟨rfl, rfl⟩
            go_wp2_with fail
            refine (c2 _).mono ?_
            rintro e w1 ⟨rfl, rfl⟩
            go_wp2_with fail
            refine b.mono ?_
            rintro e w1 ⟨rfl, rfl⟩
            go_wp2
            go_ret2
            exact ⟨by rw [E.out]; rfl, rfl⟩
        | true =>
          rw [if_neg (by decide)] at E
          have hx2 : (f = 1 ∧ t = 1) ∨ ((f == 1) = false ∧ (t == 1) = false) := hx'.imp id (fun h => ⟨k1 h.1, k2 h.2⟩)
          clear k1 k2 hx'
          rcases hx2 with ⟨rfl, rfl⟩ | ⟨h1, h2⟩
          all_goals
            go_enter Tryz.func91, Tryz.ntmps91
            go_wp2_with fail
            refine (c1 _).mono ?_
            rintro e w1 ⟨rfl, rfl⟩
            go_wp2_with fail
            refine (c2 _).mono ?_
            rintro e w1 ⟨rfl, rfl⟩
            go_wp2_with fail
            refine b.mono ?_
            rintro e w1 ⟨rfl, rfl⟩
            go_wp2_with fail
            refine (d _).mono ?_
            rintro e w1 ⟨rfl, rfl⟩
            go_wp2
            go_ret2
            exact ⟨by rw [E.out]; rfl, rfl⟩
set_option maxRecDepth 100000 in
set_option maxHeartbeats 1600000 in
theorem convR_any (f t n : Int) (w : World) : Calls Tryz.prog 94 #[.int .i64 f, .int .i64 t, .int .i64 n] w fun e w' => e = .returned (.tuple #[.int .i64 (convN f t n).1, .int .i64 (convN f t n).2]) ∧ w' = w := by
  have c := type_any
  have d := wrappedR_any t n
  have b := fitsR_any f n w
  have E := hide (show convN f t n = if tyB f = false ∨ tyB t = false ∨ (decide (f = 1) != decide (t = 1)) = true then (0, 40) else if fitB f n = false then (0, 1) else (wrN t n, 0) from rfl)
  generalize fitB f n = B at *
  have c1 := c f
  have c2 := c t
  clear c
  cases hf : tyB f with
  | false =>
    rw [if_pos (.inl hf)] at E
    rw [hf] at c1
    clear hf c2 d b
    go_enter Tryz.func94, Tryz.ntmps94
    go_wp2_with fail
    refine (c1 _).mono ?_
    rintro e w1 ⟨rfl, rfl⟩
    go_wp2
    go_ret2
    exact ⟨by rw [E.out]; rfl, rfl⟩
  | true =>
    rw [hf] at c1
    cases ht : tyB t with
    | false =>
      rw [if_pos (.inr (.inl ht))] at E
      rw [ht] at c2
      clear hf ht d b
      go_enter Tryz.func94, Tryz.ntmps94
      go_wp2_with fail
      refine (c1 _).mono ?_
      rintro e w1 ⟨rfl, rfl⟩
      go_wp2_with fail
      refine (c2 _).mono ?_
      rintro e w1 ⟨rfl, rfl⟩
      go_wp2
      go_ret2
      exact ⟨by rw [E.out]; rfl, rfl⟩
    | true =>
      rw [ht] at c2
      by_cases hx : (decide (f = 1) != decide (t = 1)) = true
      · rw [if_pos (.inr (.inr hx))] at E
        have hx' : (f = 1 ∧ ¬ t = 1) ∨ (¬ f = 1 ∧ t = 1) := by
          by_cases h1 : f = 1 <;> by_cases h2 : t = 1 <;> simp [h1, h2] at hx ⊢
        have k1 : ¬ f = 1 → (f == 1) = false := fun h => by simp [h]
        have k2 : ¬ t = 1 → (t == 1) = false := fun h => by simp [h]
        clear hf ht d b hx
        have hx2 : (f = 1 ∧ (t == 1) = false) ∨ ((f == 1) = false ∧ t = 1) := hx'.imp (fun h => ⟨h.1, k2 h.2⟩) (fun h => ⟨k1 h.1, h.2⟩)
        clear k1 k2 hx'
        rcases hx2 with ⟨rfl, h2⟩ | ⟨h1, rfl⟩
        all_goals
          go_enter Tryz.func94, Tryz.ntmps94
          go_wp2_with fail
          refine (c1 _).mono ?_
          rintro e w1 ⟨rfl, rfl⟩
          go_wp2_with fail
          refine (c2 _).mono ?_
          rintro e w1 ⟨rfl, rfl⟩
          go_wp2
          go_ret2
          exact ⟨by rw [E.out]; rfl, rfl⟩
      · rw [if_neg (by rw [hf, ht]; simp only [Bool.true_eq_false, false_or]; exact hx)] at E
        have hx' : (f = 1 ∧ t = 1) ∨ (¬ f = 1 ∧ ¬ t = 1) := by
          by_cases h1 : f = 1 <;> by_cases h2 : t = 1 <;> simp [h1, h2] at hx ⊢
        have k1 : ¬ f = 1 → (f == 1) = false := fun h => by simp [h]
        have k2 : ¬ t = 1 → (t == 1) = false := fun h => by simp [h]
        clear hf ht hx
        cases B with
        | false =>
          rw [if_pos rfl] at E
          clear d
          have hx2 : (f = 1 ∧ t = 1) ∨ ((f == 1) = false ∧ (t == 1) = false) := hx'.imp id (fun h => ⟨k1 h.1, k2 h.2⟩)
          clear k1 k2 hx'
          rcases hx2 with ⟨rfl, rfl⟩ | ⟨h1, h2⟩
          all_goals
            go_enter Tryz.func94, Tryz.ntmps94
            go_wp2_with fail
            refine (c1 _).mono ?_
            rintro e w1 ⟨rfl, rfl⟩
            go_wp2_with fail
            refine (c2 _).mono ?_
            rintro e w1 ⟨rfl, rfl⟩
            go_wp2_with fail
            refine b.mono ?_
            rintro e w1 ⟨rfl, rfl⟩
            go_wp2
            go_ret2
            exact ⟨by rw [E.out]; rfl, rfl⟩
        | true =>
          rw [if_neg (by decide)] at E
          have hx2 : (f = 1 ∧ t = 1) ∨ ((f == 1) = false ∧ (t == 1) = false) := hx'.imp id (fun h => ⟨k1 h.1, k2 h.2⟩)
          clear k1 k2 hx'
          rcases hx2 with ⟨rfl, rfl⟩ | ⟨h1, h2⟩
          all_goals
            go_enter Tryz.func94, Tryz.ntmps94
            go_wp2_with fail
            refine (c1 _).mono ?_
            rintro e w1 ⟨rfl, rfl⟩
            go_wp2_with fail
            refine (c2 _).mono ?_
            rintro e w1 ⟨rfl, rfl⟩
            go_wp2_with fail
            refine b.mono ?_
            rintro e w1 ⟨rfl, rfl⟩
            go_wp2_with fail
            refine (d _).mono ?_
            rintro e w1 ⟨rfl, rfl⟩
            go_wp2
            go_ret2
            exact ⟨by rw [E.out]; rfl, rfl⟩
end Go.Proofs.YtldjiieckddhkaaGreatDoor.Four
namespace Go.Proofs.YtldjiieckddhkaaGreatDoor
open Go.RowKit
set_option maxRecDepth 100000 in
set_option maxHeartbeats 1600000 in
theorem works102 (k n t : Int) (s f : ByteArray) (w : World) : Calls Tryz.prog 102 #[.agg #[.int .i64 k, .int .i64 n, .int .i64 t, .string s, .string f]] w fun e w' => e = .returned (.int .i64 ((takes ⟨k, [], [], n, t⟩ : Nat) : Int)) ∧ Below w.heap.size w w' := by
  have B0 := hide ((Below.refl w.heap.size w).alloc (Nat.le_refl _) (.cells #[.int .i64 k, .int .i64 n, .int .i64 t, .string s, .string f] 38))
  have HT : Hid (takes ⟨k, [], [], n, t⟩ = if k = 3 ∨ k = 6 then 1 else if k = 5 ∧ (n = 15 ∨ n = 16) then 1 else if k = 5 then 2 else 0) := rfl
  by_cases h3 : k = 3
  · subst h3
    rw [if_pos (.inl rfl)] at HT
    go_enter Tryz.func102, Tryz.ntmps102
    go_wp2
    go_ret
    exact ⟨by rw [HT.out]; rfl, B0.out⟩
  by_cases h6 : k = 6
  · subst h6
    rw [if_pos (.inr rfl)] at HT
    go_enter Tryz.func102, Tryz.ntmps102
    go_wp2
    go_ret
    exact ⟨by rw [HT.out]; rfl, B0.out⟩
  rw [if_neg (by omega)] at HT
  by_cases h5 : k = 5
  · subst h5
    by_cases h15 : n = 15
    · subst h15
      rw [if_pos (by omega)] at HT
      go_enter Tryz.func102, Tryz.ntmps102
      go_wp2
      go_ret
      exact ⟨by rw [HT.out]; rfl, B0.out⟩
    by_cases h16 : n = 16
    · subst h16
      rw [if_pos (by omega)] at HT
      go_enter Tryz.func102, Tryz.ntmps102
      go_wp2
      go_ret
      exact ⟨by rw [HT.out]; rfl, B0.out⟩
    rw [if_neg (by omega), if_pos rfl] at HT
    have q1 : (n == 15) = false := by rw [beq_eq_false_iff_ne]; exact h15
    have q2 : (n == 16) = false := by rw [beq_eq_false_iff_ne]; exact h16
    go_enter Tryz.func102, Tryz.ntmps102
    go_wp2
    go_ret
    exact ⟨by rw [HT.out]; rfl, B0.out⟩
  · rw [if_neg (by omega), if_neg h5] at HT
    have q1 : (k == 3) = false := by rw [beq_eq_false_iff_ne]; exact h3
    have q2 : (k == 6) = false := by rw [beq_eq_false_iff_ne]; exact h6
    have q3 : (k == 5) = false := by rw [beq_eq_false_iff_ne]; exact h5
    go_enter Tryz.func102, Tryz.ntmps102
    go_wp2
    go_ret
    exact ⟨by rw [HT.out]; rfl, B0.out⟩
set_option maxRecDepth 100000 in
set_option maxHeartbeats 1600000 in
theorem works83 (k n t : Int) (s f : ByteArray) (w : World) : Calls Tryz.prog 83 #[.agg #[.int .i64 k, .int .i64 n, .int .i64 t, .string s, .string f]] w fun e w' => e = .returned (.int .i64 ((takes ⟨k, [], [], n, t⟩ : Nat) : Int)) ∧ Below w.heap.size w w' := by
  have B0 := hide ((Below.refl w.heap.size w).alloc (Nat.le_refl _) (.cells #[.int .i64 k, .int .i64 n, .int .i64 t, .string s, .string f] 38))
  have HT : Hid (takes ⟨k, [], [], n, t⟩ = if k = 3 ∨ k = 6 then 1 else if k = 5 ∧ (n = 15 ∨ n = 16) then 1 else if k = 5 then 2 else 0) := rfl
  by_cases h3 : k = 3
  · subst h3
    rw [if_pos (.inl rfl)] at HT
    go_enter Tryz.func83, Tryz.ntmps83
    go_wp2
    go_ret
    exact ⟨by rw [HT.out]; rfl, B0.out⟩
  by_cases h6 : k = 6
  · subst h6
    rw [if_pos (.inr rfl)] at HT
    go_enter Tryz.func83, Tryz.ntmps83
    go_wp2
    go_ret
    exact ⟨by rw [HT.out]; rfl, B0.out⟩
  rw [if_neg (by omega)] at HT
  by_cases h5 : k = 5
  · subst h5
    by_cases h15 : n = 15
    · subst h15
      rw [if_pos (by omega)] at HT
      go_enter Tryz.func83, Tryz.ntmps83
      go_wp2
      go_ret
      exact ⟨by rw [HT.out]; rfl, B0.out⟩
    by_cases h16 : n = 16
    · subst h16
      rw [if_pos (by omega)] at HT
      go_enter Tryz.func83, Tryz.ntmps83
      go_wp2
      go_ret
      exact ⟨by rw [HT.out]; rfl, B0.out⟩
    rw [if_neg (by omega), if_pos rfl] at HT
    have q1 : (n == 15) = false := by rw [beq_eq_false_iff_ne]; exact h15
    have q2 : (n == 16) = false := by rw [beq_eq_false_iff_ne]; exact h16
    go_enter Tryz.func83, Tryz.ntmps83
    go_wp2
    go_ret
    exact ⟨by rw [HT.out]; rfl, B0.out⟩
  · rw [if_neg (by omega), if_neg h5] at HT
    have q1 : (k == 3) = false := by rw [beq_eq_false_iff_ne]; exact h3
    have q2 : (k == 6) = false := by rw [beq_eq_false_iff_ne]; exact h6
    have q3 : (k == 5) = false := by rw [beq_eq_false_iff_ne]; exact h5
    go_enter Tryz.func83, Tryz.ntmps83
    go_wp2
    go_ret
    exact ⟨by rw [HT.out]; rfl, B0.out⟩
theorem eq52 (a b c a' b' c' : Int) (W : World) : (binOp .eql 52 (.agg #[.int .i64 a, .int .i64 b, .int .i64 c]) (.agg #[.int .i64 a', .int .i64 b', .int .i64 c'])).run Tryz.prog W = .ok (.bool (decide (a = a' ∧ b = b' ∧ c = c'))) W := by
  by_cases h1 : a = a'
  · by_cases h2 : b = b'
    · by_cases h3 : c = c'
      · subst h1 h2 h3; simp [go_sem]
      · subst h1 h2; simp [go_sem, h3]
    · subst h1; simp [go_sem, h2]
  · simp [go_sem, h1]
theorem Glo.four {w : World} (h : Glo w) : Four.Glo w := fun k hk => by
  have hk' : k = 0 ∨ k = 1 ∨ k = 2 ∨ k = 3 ∨ k = 4 ∨ k = 5 ∨ k = 6 ∨ k = 7 ∨ k = 8 ∨ k = 9 := by omega
  rcases hk' with rfl | rfl | rfl | rfl | rfl | rfl | rfl | rfl | rfl | rfl <;> exact h.span _ _ rfl
theorem kFits_bare {b c t : Int} : kFits ⟨0, b, c⟩ t = if t ≠ 2 ∧ t ≠ 3 then 40 else if fit6 t b = false ∨ fit6 t c = false then 1 else 0 := by
  unfold kFits
  rw [if_neg (fun h => h.1 rfl)]
  by_cases h : t ≠ 2 ∧ t ≠ 3
  · rw [if_pos (.inr h), if_pos h]
  · rw [if_neg (fun e => by rcases e with e | e; exact e rfl; exact h e), if_neg h]
set_option maxRecDepth 100000 in
set_option maxHeartbeats 1600000 in
theorem kfits_any (a b c t : Int) (w : World) (hg : Glo w) : Calls Tryz.prog 40 #[.agg #[.int .i64 a, .int .i64 b, .int .i64 c], .int .i64 t] w fun e w' => e = .returned (.int .i64 (kFits ⟨a, b, c⟩ t)) ∧ Below w.heap.size w w' := by
  have B0 := hide ((Below.refl w.heap.size w).alloc (Nat.le_refl _) (.cells #[.int .i64 a, .int .i64 b, .int .i64 c] 52))
  have hs := (hg.below B0.out hg.lt).span
  by_cases ha : a = 0
  · subst ha
    have HK := hide (kFits_bare (b := b) (c := c) (t := t))
    generalize kFits ⟨0, b, c⟩ t = R at *
    by_cases ht : t ≠ 2 ∧ t ≠ 3
    · rw [if_pos ht] at HK
      have t2 : (t != 2) = true := by rw [bne_iff_ne]; exact ht.1
      have t3 : (t != 3) = true := by rw [bne_iff_ne]; exact ht.2
      clear ht hs hg
      go_enter Tryz.func40, Tryz.ntmps40
      go_wp2
      go_ret
      exact ⟨by rw [HK.out]; rfl, B0.out⟩
    · rw [if_neg ht] at HK
      have h23 : t = 2 ∨ t = 3 := by omega
      have c1 := fits_all t b _ hs
      have c2 := fits_all t c _ hs
      clear ht hs hg
      generalize fit6 t b = FB at *
      generalize fit6 t c = FC at *
      rcases h23 with rfl | rfl
      all_goals
        go_enter Tryz.func40, Tryz.ntmps40
        go_wp2_with fail
        refine c1.mono ?_
        rintro e w1 ⟨rfl, rfl⟩
        clear c1
        cases FB with
        | false =>
          rw [if_pos (.inl rfl)] at HK
          clear c2
          go_wp2
          go_ret
          exact ⟨by rw [HK.out]; rfl, B0.out⟩
        | true =>
          go_wp2_with fail
          refine c2.mono ?_
          rintro e w1 ⟨rfl, rfl⟩
          clear c2
          cases FC with
          | false =>
            rw [if_pos (.inr rfl)] at HK
            go_wp2
            go_ret
            exact ⟨by rw [HK.out]; rfl, B0.out⟩
          | true =>
            rw [if_neg (by decide)] at HK
            go_wp2
            go_ret
            exact ⟨by rw [HK.out]; rfl, B0.out⟩
  · have a0 : (a != 0) = true := by rw [bne_iff_ne]; exact ha
    have hq := eq52 a b c t 0 0
    by_cases he : a = t ∧ b = 0 ∧ c = 0
    · have HK : Hid (kFits ⟨a, b, c⟩ t = 0) := by show _ = _; obtain ⟨rfl, rfl, rfl⟩ := he; exact kFits_same ha
      rw [decide_eq_true he] at hq
      generalize kFits ⟨a, b, c⟩ t = R at *
      clear he ha hs hg
      go_enter Tryz.func40, Tryz.ntmps40
      go_wp2
      go_ret
      exact ⟨by rw [HK.out]; rfl, B0.out⟩
    · have HK : Hid (kFits ⟨a, b, c⟩ t = 40) := by
        show _ = _
        unfold kFits
        rw [if_neg (fun h => he (by have h2 := h.2; unfold kT at h2; injection h2 with h3 h4 h5; exact ⟨h3, h4, h5⟩)), if_pos (.inl ha)]
      rw [decide_eq_false he] at hq
      generalize kFits ⟨a, b, c⟩ t = R at *
      clear he ha hs hg
      go_enter Tryz.func40, Tryz.ntmps40
      go_wp2
      go_ret
      exact ⟨by rw [HK.out]; rfl, B0.out⟩
theorem typeOr_any (a b c t : Int) (w : World) : Calls Tryz.prog 162 #[.agg #[.int .i64 a, .int .i64 b, .int .i64 c], .int .i64 t] w fun e w' => e = .returned (.int .i64 (tyOr ⟨a, b, c⟩ t)) ∧ Below w.heap.size w w' := by
  have B0 := hide ((Below.refl w.heap.size w).alloc (Nat.le_refl _) (.cells #[.int .i64 a, .int .i64 b, .int .i64 c] 52))
  by_cases ha : a = 0
  · subst ha
    go_enter Tryz.func162, Tryz.ntmps162
    go_wp2
    go_ret
    exact ⟨rfl, B0.out⟩
  · have a0 : (a == 0) = false := by rw [beq_eq_false_iff_ne]; exact ha
    have HT : Hid (tyOr ⟨a, b, c⟩ t = a) := by show _ = _; unfold tyOr; rw [if_neg ha]
    clear ha
    go_enter Tryz.func162, Tryz.ntmps162
    go_wp2
    go_ret
    exact ⟨by rw [HT.out]; rfl, B0.out⟩
theorem numberKind_any (k n t : Int) (s f : ByteArray) (w : World) : Calls Tryz.prog 138 #[.agg #[.int .i64 k, .int .i64 n, .int .i64 t, .string s, .string f]] w fun e w' => e = .returned (.agg #[.int .i64 (if t = 0 then 0 else t), .int .i64 (if t = 0 then n else 0), .int .i64 (if t = 0 then n else 0)]) ∧ Below w.heap.size w w' := by
  have B0 := hide (((Below.refl w.heap.size w).alloc (Nat.le_refl _) (.cells #[.int .i64 k, .int .i64 n, .int .i64 t, .string s, .string f] 38)))
  by_cases ha : t = 0
  · subst ha
    simp only [if_true]
    go_enter Tryz.func138, Tryz.ntmps138
    go_wp2
    refine bodyPost_ret (v := .agg #[.int .i64 0, .int .i64 n, .int .i64 n]) (by simp [results, Tryz.results138, go_sem]) rfl ⟨rfl, ?_⟩
    exact B0.out.alloc (by simp) _
  · have a0 : (t == 0) = false := by rw [beq_eq_false_iff_ne]; exact ha
    simp only [if_neg ha]
    clear ha
    go_enter Tryz.func138, Tryz.ntmps138
    go_wp2
    refine bodyPost_ret (v := .agg #[.int .i64 t, .int .i64 0, .int .i64 0]) (by simp [results, Tryz.results138, go_sem]) rfl ⟨rfl, ?_⟩
    exact B0.out.alloc (by simp) _
theorem with_any (a b c a' b' c' : Int) (w : World) : Calls Tryz.prog 163 #[.agg #[.int .i64 a, .int .i64 b, .int .i64 c], .agg #[.int .i64 a', .int .i64 b', .int .i64 c']] w fun e w' => e = .returned (.agg #[.int .i64 0, .int .i64 (min b b'), .int .i64 (max c c')]) ∧ Below w.heap.size w w' := by
  obtain ⟨m, hm⟩ : ∃ m, m = min b b' := ⟨_, rfl⟩
  obtain ⟨x, hx⟩ : ∃ x, x = max c c' := ⟨_, rfl⟩
  rw [← hm, ← hx]
  have r1 : ∀ (ts : Array TypeId) (t : TypeId) (W : World), (Builtin.min_ ts t #[.int .i64 b, .int .i64 b']).run Tryz.prog W = .ok (.int .i64 m) W := fun ts t W => by
    rw [run_min_int2, show (if b' < b then b' else b) = m from by rw [hm]; split <;> omega]
  have r2 : ∀ (ts : Array TypeId) (t : TypeId) (W : World), (Builtin.max_ ts t #[.int .i64 c, .int .i64 c']).run Tryz.prog W = .ok (.int .i64 x) W := fun ts t W => by
    rw [run_max_int2, show (if c < c' then c' else c) = x from by rw [hx]; split <;> omega]
  clear hm hx
  go_enter Tryz.func163, Tryz.ntmps163
  go_wp2
  refine bodyPost_ret (v := .agg #[.int .i64 0, .int .i64 m, .int .i64 x]) (by simp [results, Tryz.results163, go_sem]) rfl ⟨rfl, ?_⟩
  exact (((Below.refl w.heap.size w).alloc (Nat.le_refl _) _).alloc (by simp) _).alloc (by simp; omega) _
theorem shapeOf_any (s : ByteArray) (t l i d : Int) (w : World) : Calls Tryz.prog 160 #[.agg #[.string s, .int .i64 t, .int .i64 l, .int .i64 i, .int .i64 d]] w fun e w' => e = .returned (.agg #[.bool (decide (0 < l)), .bool (decide (100 < t))]) ∧ Below w.heap.size w w' := by
  go_enter Tryz.func160, Tryz.ntmps160
  go_wp2
  refine bodyPost_ret (v := .agg #[.bool (decide (0 < l)), .bool (decide (100 < t))]) (by simp [results, Tryz.results160, go_sem]) rfl ⟨rfl, ?_⟩
  exact ((Below.refl w.heap.size w).alloc (Nat.le_refl _) _).alloc (by simp) _
end Go.Proofs.YtldjiieckddhkaaGreatDoor
