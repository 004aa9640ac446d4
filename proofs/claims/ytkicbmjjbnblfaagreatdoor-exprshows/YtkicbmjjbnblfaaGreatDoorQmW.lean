/- The contract of the document's may. -/
import Derived.Test.YtkicbmjjbnblfaaGreatDoorEmW
import Derived.Test.YtkicbmjjbnblfaaGreatDoorQrA
namespace Go.Proofs.YtkicbmjjbnblfaaGreatDoor
open Go.RowKit
theorem below_two (w : World) (o o' : Obj) : Below w.heap.size w ((w.alloc o).alloc o') :=
  ((Below.refl _ _).alloc (Nat.le_refl _) o).alloc (by rw [World.size_alloc]; omega) o'
theorem below_then {w w1 w2 : World} (h1 : Below w.heap.size w w1) (h2 : Below w1.heap.size w1 w2) : Below w.heap.size w w2 := h1.trans (h2.mono h1.size)
set_option maxRecDepth 100000 in
set_option maxHeartbeats 3200000 in
theorem qmay_num (n t : Int) (s f : Bs) (w : World) : Calls Tryz.prog 25 #[.agg #[.int .i64 1, .int .i64 n, .int .i64 t, .string ⟨s.toArray⟩, .string ⟨f.toArray⟩]] w fun e w' => e = .returned (.bool (mayP ⟨1, s, f, n, t⟩)) ∧ Below w.heap.size w w' := by
  have HM : Hid (mayP ⟨1, s, f, n, t⟩ = (decide (s = [] ∧ f = []) && (if t = 0 then decide (-2147483648 ≤ n) && decide (n ≤ 2147483648) else fit6 t n))) := by
    show (decide (s = []) && (decide (f = []) && (if t = 0 then decide (-2147483648 ≤ n) && decide (n ≤ 2147483648) else fit6 t n))) = _
    rw [Bool.decide_and, Bool.and_assoc]
  have c := fun W => qfits_any t n W
  obtain ⟨b, hrun, hb⟩ := eq44 0 0 0 0 0 0 ⟨s.toArray⟩ ⟨f.toArray⟩ ⟨#[]⟩ ⟨#[]⟩
  have HB : Hid (b = decide (s = [] ∧ f = [])) := by
    show _ = _
    rw [hb, decide_eq_decide, text_nil, text_nil]; simp
  generalize (⟨s.toArray⟩ : ByteArray) = S at *
  generalize (⟨f.toArray⟩ : ByteArray) = F at *
  clear hb
  rw [← HB.out] at HM
  clear HB
  by_cases h0 : t = 0
  · subst h0
    rw [if_pos rfl] at HM
    cases b with
    | false =>
      go_enter Tryz.func25, Tryz.ntmps25
      go_wp2
      go_ret
      exact ⟨ret_bool (by rw [HM.out]; rfl), below_two _ _ _⟩
    | true =>
      by_cases hn : -2147483648 ≤ n
      · rw [decide_eq_true hn] at HM
        go_enter Tryz.func25, Tryz.ntmps25
        go_wp2
        go_ret
        exact ⟨ret_bool (by rw [HM.out]; rfl), below_two _ _ _⟩
      · rw [decide_eq_false hn] at HM
        go_enter Tryz.func25, Tryz.ntmps25
        go_wp2
        go_ret
        exact ⟨ret_bool (by rw [HM.out]; rfl), below_two _ _ _⟩
  · rw [if_neg h0] at HM
    have e0 : (t == 0) = false := by rw [beq_eq_false_iff_ne]; exact h0
    cases b with
    | false =>
      go_enter Tryz.func25, Tryz.ntmps25
      go_wp2
      go_ret
      exact ⟨ret_bool (by rw [HM.out]; rfl), below_two _ _ _⟩
    | true =>
      go_enter Tryz.func25, Tryz.ntmps25
      go_wp2_with fail
      refine (c _).mono ?_
      rintro e w1 ⟨rfl, hw1⟩
      subst hw1
      go_wp2
      go_ret
      exact ⟨ret_bool (by rw [HM.out]; rfl), below_two _ _ _⟩
set_option maxRecDepth 100000 in
set_option maxHeartbeats 3200000 in
theorem qmay_name (k n t : Int) (hk : k = 2 ∨ k = 3) (s f : Bs) (w : World) : Calls Tryz.prog 25 #[.agg #[.int .i64 k, .int .i64 n, .int .i64 t, .string ⟨s.toArray⟩, .string ⟨f.toArray⟩]] w fun e w' => e = .returned (.bool (mayP ⟨k, s, f, n, t⟩)) ∧ Below w.heap.size w w' := by
  have HM : Hid (mayP ⟨k, s, f, n, t⟩ = (decide (n = 0 ∧ t = 0 ∧ f = []) && nameB s)) := by
    show _ = _
    unfold mayP
    simp only []
    rw [if_neg (by omega), if_pos hk]
    rw [Bool.eq_iff_iff]; simp; constructor
    · rintro ⟨a, b, c, d⟩; exact ⟨⟨by assumption, by assumption, by assumption⟩, by assumption⟩
    · rintro ⟨⟨a, b, c⟩, d⟩; exact ⟨by assumption, by assumption, by assumption, by assumption⟩
  have c := fun W => qName_any s W
  obtain ⟨b, hrun, hb⟩ := eq44 0 n t 0 0 0 ⟨#[]⟩ ⟨f.toArray⟩ ⟨#[]⟩ ⟨#[]⟩
  have HB : Hid (b = decide (n = 0 ∧ t = 0 ∧ f = [])) := by
    show _ = _
    rw [hb, decide_eq_decide, text_nil]; simp
  generalize (⟨s.toArray⟩ : ByteArray) = S at *
  generalize (⟨f.toArray⟩ : ByteArray) = F at *
  clear hb
  rw [← HB.out] at HM
  clear HB
  rcases hk with rfl | rfl
  · cases b with
    | false =>
      go_enter Tryz.func25, Tryz.ntmps25
      go_wp2
      go_ret
      exact ⟨ret_bool (by rw [HM.out]; rfl), below_two _ _ _⟩
    | true =>
      go_enter Tryz.func25, Tryz.ntmps25
      go_wp2_with fail
      refine (c _).mono ?_
      rintro e w1 ⟨rfl, hw1⟩
      have HB1 := hide (below_then (below_two w _ _) hw1)
      clear hw1
      go_wp2
      go_ret
      exact ⟨ret_bool (by rw [HM.out]; rfl), HB1.out⟩
  · cases b with
    | false =>
      go_enter Tryz.func25, Tryz.ntmps25
      go_wp2
      go_ret
      exact ⟨ret_bool (by rw [HM.out]; rfl), below_two _ _ _⟩
    | true =>
      go_enter Tryz.func25, Tryz.ntmps25
      go_wp2_with fail
      refine (c _).mono ?_
      rintro e w1 ⟨rfl, hw1⟩
      have HB1 := hide (below_then (below_two w _ _) hw1)
      clear hw1
      go_wp2
      go_ret
      exact ⟨ret_bool (by rw [HM.out]; rfl), HB1.out⟩
set_option maxRecDepth 100000 in
set_option maxHeartbeats 3200000 in
theorem qmay_field (n t : Int) (s f : Bs) (w : World) : Calls Tryz.prog 25 #[.agg #[.int .i64 4, .int .i64 n, .int .i64 t, .string ⟨s.toArray⟩, .string ⟨f.toArray⟩]] w fun e w' => e = .returned (.bool (mayP ⟨4, s, f, n, t⟩)) ∧ Below w.heap.size w w' := by
  have HM : Hid (mayP ⟨4, s, f, n, t⟩ = (decide (n = 0 ∧ t = 0) && (nameB s && wordB f))) := by
    show (decide (n = 0) && (decide (t = 0) && (nameB s && wordB f))) = _
    rw [Bool.decide_and, Bool.and_assoc]
  have c := fun W => qName_any s W
  have c2 := fun W => qWord_any f W
  obtain ⟨b, hrun, hb⟩ := eq44 0 n t 0 0 0 ⟨#[]⟩ ⟨#[]⟩ ⟨#[]⟩ ⟨#[]⟩
  have HB : Hid (b = decide (n = 0 ∧ t = 0)) := by
    show _ = _
    rw [hb, decide_eq_decide]; simp
  generalize (⟨s.toArray⟩ : ByteArray) = S at *
  generalize (⟨f.toArray⟩ : ByteArray) = F at *
  clear hb
  rw [← HB.out] at HM
  clear HB
  cases b with
  | false =>
    go_enter Tryz.func25, Tryz.ntmps25
    go_wp2
    go_ret
    exact ⟨ret_bool (by rw [HM.out]; rfl), below_two _ _ _⟩
  | true =>
    have m0 : ∀ o o', ((w.alloc (.cells #[.int .i64 4, .int .i64 n, .int .i64 t, .string S, .string F] o)).alloc o').heap[w.heap.size]? = some (.cells #[.int .i64 4, .int .i64 n, .int .i64 t, .string S, .string F] o) := fun o o' => by
      rw [← heap_alloc_new w (.cells #[.int .i64 4, .int .i64 n, .int .i64 t, .string S, .string F] o)]
      exact Below.heap_alloc _ _ _ (by rw [World.size_alloc]; omega)
    go_enter Tryz.func25, Tryz.ntmps25
    go_wp2_with fail
    refine (c _).mono ?_
    rintro e w1 ⟨rfl, hw1⟩
    have HB1 := hide (below_then (below_two w _ _) hw1)
    have m1 := (hw1.block w.heap.size (by simp only [World.size_alloc]; omega)).trans (m0 _ _)
    have d4 : w1.cell? ⟨w.heap.size, 4, none⟩ = some (.string F) := by rw [Lib.cell_of_heap m1]; rfl
    clear hw1 m1 m0
    cases hn : nameB s with
    | false =>
      rw [hn] at HM
      go_wp2
      go_ret
      exact ⟨ret_bool (by rw [HM.out]; rfl), HB1.out⟩
    | true =>
      rw [hn] at HM
      go_wp2_with fail
      refine (c2 _).mono ?_
      rintro e w2 ⟨rfl, hw2⟩
      subst hw2
      go_wp2
      go_ret
      exact ⟨ret_bool (by rw [HM.out]; rfl), HB1.out⟩
set_option maxRecDepth 100000 in
set_option maxHeartbeats 3200000 in
theorem qmay_op (n t : Int) (s f : Bs) (w : World) : Calls Tryz.prog 25 #[.agg #[.int .i64 5, .int .i64 n, .int .i64 t, .string ⟨s.toArray⟩, .string ⟨f.toArray⟩]] w fun e w' => e = .returned (.bool (mayP ⟨5, s, f, n, t⟩)) ∧ Below w.heap.size w w' := by
  have HM : Hid (mayP ⟨5, s, f, n, t⟩ = (decide (t = 0 ∧ s = [] ∧ f = []) && (decide (1 ≤ n) && decide (n ≤ 16)))) := by
    show (decide (s = []) && (decide (f = []) && (decide (t = 0) && (decide (1 ≤ n) && decide (n ≤ 16))))) = _
    rw [Bool.eq_iff_iff]; simp; constructor
    · rintro ⟨a, b, c, d, e⟩; exact ⟨⟨by assumption, by assumption, by assumption⟩, by assumption, by assumption⟩
    · rintro ⟨⟨a, b, c⟩, d, e⟩; exact ⟨by assumption, by assumption, by assumption, by assumption, by assumption⟩
  obtain ⟨b, hrun, hb⟩ := eq44 0 0 t 0 0 0 ⟨s.toArray⟩ ⟨f.toArray⟩ ⟨#[]⟩ ⟨#[]⟩
  have HB : Hid (b = decide (t = 0 ∧ s = [] ∧ f = [])) := by
    show _ = _
    rw [hb, decide_eq_decide, text_nil, text_nil]; simp
  generalize (⟨s.toArray⟩ : ByteArray) = S at *
  generalize (⟨f.toArray⟩ : ByteArray) = F at *
  clear hb
  rw [← HB.out] at HM
  clear HB
  cases b with
  | false =>
    go_enter Tryz.func25, Tryz.ntmps25
    go_wp2
    go_ret
    exact ⟨ret_bool (by rw [HM.out]; rfl), below_two _ _ _⟩
  | true =>
    by_cases hn : 1 ≤ n
    · rw [decide_eq_true hn] at HM
      go_enter Tryz.func25, Tryz.ntmps25
      go_wp2
      go_ret
      exact ⟨ret_bool (by rw [HM.out]; rfl), below_two _ _ _⟩
    · rw [decide_eq_false hn] at HM
      go_enter Tryz.func25, Tryz.ntmps25
      go_wp2
      go_ret
      exact ⟨ret_bool (by rw [HM.out]; rfl), below_two _ _ _⟩
set_option maxRecDepth 100000 in
set_option maxHeartbeats 3200000 in
theorem qmay_to (n t : Int) (s f : Bs) (w : World) : Calls Tryz.prog 25 #[.agg #[.int .i64 6, .int .i64 n, .int .i64 t, .string ⟨s.toArray⟩, .string ⟨f.toArray⟩]] w fun e w' => e = .returned (.bool (mayP ⟨6, s, f, n, t⟩)) ∧ Below w.heap.size w w' := by
  have HM : Hid (mayP ⟨6, s, f, n, t⟩ = (decide (n = 0 ∧ s = [] ∧ f = []) && (decide (2 ≤ t) && decide (t ≤ 4)))) := by
    show (decide (s = []) && (decide (f = []) && (decide (n = 0) && (decide (2 ≤ t) && decide (t ≤ 4))))) = _
    rw [Bool.eq_iff_iff]; simp; constructor
    · rintro ⟨a, b, c, d, e⟩; exact ⟨⟨by assumption, by assumption, by assumption⟩, by assumption, by assumption⟩
    · rintro ⟨⟨a, b, c⟩, d, e⟩; exact ⟨by assumption, by assumption, by assumption, by assumption, by assumption⟩
  obtain ⟨b, hrun, hb⟩ := eq44 0 n 0 0 0 0 ⟨s.toArray⟩ ⟨f.toArray⟩ ⟨#[]⟩ ⟨#[]⟩
  have HB : Hid (b = decide (n = 0 ∧ s = [] ∧ f = [])) := by
    show _ = _
    rw [hb, decide_eq_decide, text_nil, text_nil]; simp
  generalize (⟨s.toArray⟩ : ByteArray) = S at *
  generalize (⟨f.toArray⟩ : ByteArray) = F at *
  clear hb
  rw [← HB.out] at HM
  clear HB
  cases b with
  | false =>
    go_enter Tryz.func25, Tryz.ntmps25
    go_wp2
    go_ret
    exact ⟨ret_bool (by rw [HM.out]; rfl), below_two _ _ _⟩
  | true =>
    by_cases hn : 2 ≤ t
    · rw [decide_eq_true hn] at HM
      go_enter Tryz.func25, Tryz.ntmps25
      go_wp2
      go_ret
      exact ⟨ret_bool (by rw [HM.out]; rfl), below_two _ _ _⟩
    · rw [decide_eq_false hn] at HM
      go_enter Tryz.func25, Tryz.ntmps25
      go_wp2
      go_ret
      exact ⟨ret_bool (by rw [HM.out]; rfl), below_two _ _ _⟩
set_option maxRecDepth 100000 in
set_option maxHeartbeats 3200000 in
theorem qmay_none (k n t : Int) (hk : k < 1 ∨ 6 < k) (S F : ByteArray) (w : World) : Calls Tryz.prog 25 #[.agg #[.int .i64 k, .int .i64 n, .int .i64 t, .string S, .string F]] w fun e w' => e = .returned (.bool false) ∧ Below w.heap.size w w' := by
  have q1 : (k == 1) = false := by rw [beq_eq_false_iff_ne]; omega
  have q2 : (k == 2) = false := by rw [beq_eq_false_iff_ne]; omega
  have q3 : (k == 3) = false := by rw [beq_eq_false_iff_ne]; omega
  have q4 : (k == 4) = false := by rw [beq_eq_false_iff_ne]; omega
  have q5 : (k == 5) = false := by rw [beq_eq_false_iff_ne]; omega
  have q6 : (k == 6) = false := by rw [beq_eq_false_iff_ne]; omega
  clear hk
  go_enter Tryz.func25, Tryz.ntmps25
  go_wp2
  go_ret
  exact ⟨rfl, below_two _ _ _⟩
theorem qmay_any (k n t : Int) (s f : Bs) (w : World) : Calls Tryz.prog 25 #[.agg #[.int .i64 k, .int .i64 n, .int .i64 t, .string ⟨s.toArray⟩, .string ⟨f.toArray⟩]] w fun e w' => e = .returned (.bool (mayP ⟨k, s, f, n, t⟩)) ∧ Below w.heap.size w w' := by
  by_cases h1 : k = 1
  · subst h1; exact qmay_num n t s f w
  by_cases h2 : k = 2 ∨ k = 3
  · exact qmay_name k n t h2 s f w
  by_cases h4 : k = 4
  · subst h4; exact qmay_field n t s f w
  by_cases h5 : k = 5
  · subst h5; exact qmay_op n t s f w
  by_cases h6 : k = 6
  · subst h6; exact qmay_to n t s f w
  have e : mayP ⟨k, s, f, n, t⟩ = false := by
    unfold mayP
    simp only []
    rw [if_neg h1, if_neg h2, if_neg h4, if_neg h5, if_neg h6]
  rw [e]
  exact qmay_none k n t (by omega) _ _ w
end Go.Proofs.YtkicbmjjbnblfaaGreatDoor
