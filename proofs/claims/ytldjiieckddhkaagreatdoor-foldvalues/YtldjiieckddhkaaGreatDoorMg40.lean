/- QmW | QcW -/
import Derived.Test.YtldjiieckddhkaaGreatDoorMg4
import Derived.Test.YtldjiieckddhkaaGreatDoorMg39
import Derived.Test.YtldjiieckddhkaaGreatDoorMg35
namespace Go.Proofs.YtldjiieckddhkaaGreatDoor
open Go.RowKit
theorem below_two (w : World) (o o' : Obj) : Below w.heap.size w ((w.alloc o).alloc o') :=
  ((Below.refl _ _).alloc (Nat.le_refl _) o).alloc (by rw [World.size_alloc]; omega) o'
theorem below_then {w w1 w2 : World} (h1 : Below w.heap.size w w1) (h2 : Below w1.heap.size w1 w2) : Below w.heap.size w w2 := h1.trans (h2.mono h1.size)
set_option maxRecDepth 100000 in
set_option maxHeartbeats 3200000 in
theorem qmay_num (n t : Int) (s f : Bs) (w : World) : Calls Tryz.prog 98 #[.agg #[.int .i64 1, .int .i64 n, .int .i64 t, .string ⟨s.toArray⟩, .string ⟨f.toArray⟩]] w fun e w' => e = .returned (.bool (mayP ⟨1, s, f, n, t⟩)) ∧ Below w.heap.size w w' := by
  have HM : Hid (mayP ⟨1, s, f, n, t⟩ = (decide (s = [] ∧ f = []) && (if t = 0 then decide (-2147483648 ≤ n) && decide (n ≤ 2147483648) else fit6 t n))) := by
    show (decide (s = []) && (decide (f = []) && (if t = 0 then decide (-2147483648 ≤ n) && decide (n ≤ 2147483648) else fit6 t n))) = _
    rw [Bool.decide_and, Bool.and_assoc]
  have c := fun W => qfits_any t n W
  obtain ⟨b, hrun, hb⟩ := eq44 0 0 0 0 0 0 ⟨s.toArray⟩ ⟨f.toArray⟩ ⟨#[]⟩ ⟨#[]⟩
  have HB : Hid (b = decide (s = [] ∧ f = [])) := by
    show _ = _
    rw [hb, decide_eq_decide, text_nil, text_nil]; simp
  generalize (⟨s.toArray⟩ : ByteArray) = S at *
  generalize (⟨f.toArray⟩ : ByteArray) = F at *
  clear hb
  rw [← HB.out] at HM
  clear HB
  by_cases h0 : t = 0
  · subst h0
    rw [if_pos rfl] at HM
    cases b with
    | false =>
      go_enter Tryz.func98, Tryz.ntmps98
      go_wp2
      go_ret
      exact ⟨ret_bool (by rw [HM.out]; rfl), below_two _ _ _⟩
    | true =>
      by_cases hn : -2147483648 ≤ n
      · rw [decide_eq_true hn] at HM
        go_enter Tryz.func98, Tryz.ntmps98
        go_wp2
        go_ret
        exact ⟨ret_bool (by rw [HM.out]; rfl), below_two _ _ _⟩
      · rw [decide_eq_false hn] at HM
        go_enter Tryz.func98, Tryz.ntmps98
        go_wp2
        go_ret
        exact ⟨ret_bool (by rw [HM.out]; rfl), below_two _ _ _⟩
  · rw [if_neg h0] at HM
    have e0 : (t == 0) = false := by rw [beq_eq_false_iff_ne]; exact h0
    cases b with
    | false =>
      go_enter Tryz.func98, Tryz.ntmps98
      go_wp2
      go_ret
      exact ⟨ret_bool (by rw [HM.out]; rfl), below_two _ _ _⟩
    | true =>
      go_enter Tryz.func98, Tryz.ntmps98
      go_wp2_with fail
      refine (c _).mono ?_
      rintro e w1 ⟨rfl, hw1⟩
      subst hw1
      go_wp2
      go_ret
      exact ⟨ret_bool (by rw [HM.out]; rfl), below_two _ _ _⟩
set_option maxRecDepth 100000 in
set_option maxHeartbeats 3200000 in
theorem qmay_name (k n t : Int) (hk : k = 2 ∨ k = 3) (s f : Bs) (w : World) : Calls Tryz.prog 98 #[.agg #[.int .i64 k, .int .i64 n, .int .i64 t, .string ⟨s.toArray⟩, .string ⟨f.toArray⟩]] w fun e w' => e = .returned (.bool (mayP ⟨k, s, f, n, t⟩)) ∧ Below w.heap.size w w' := by
  have HM : Hid (mayP ⟨k, s, f, n, t⟩ = (decide (n = 0 ∧ t = 0 ∧ f = []) && nameB s)) := by
    show _ = _
    unfold mayP
    simp only []
    rw [if_neg (by omega), if_pos hk]
    rw [Bool.eq_iff_iff]; simp; constructor
    · rintro ⟨a, b, c, d⟩; exact ⟨⟨by assumption, by assumption, by assumption⟩, by assumption⟩
    · rintro ⟨⟨a, b, c⟩, d⟩; exact ⟨by assumption, by assumption, by assumption, by assumption⟩
  have c := fun W => qName_any s W
  obtain ⟨b, hrun, hb⟩ := eq44 0 n t 0 0 0 ⟨#[]⟩ ⟨f.toArray⟩ ⟨#[]⟩ ⟨#[]⟩
  have HB : Hid (b = decide (n = 0 ∧ t = 0 ∧ f = [])) := by
    show _ = _
    rw [hb, decide_eq_decide, text_nil]; simp
  generalize (⟨s.toArray⟩ : ByteArray) = S at *
  generalize (⟨f.toArray⟩ : ByteArray) = F at *
  clear hb
  rw [← HB.out] at HM
  clear HB
  rcases hk with rfl | rfl
  · cases b with
    | false =>
      go_enter Tryz.func98, Tryz.ntmps98
      go_wp2
      go_ret
      exact ⟨ret_bool (by rw [HM.out]; rfl), below_two _ _ _⟩
    | true =>
      go_enter Tryz.func98, Tryz.ntmps98
      go_wp2_with fail
      refine (c _).mono ?_
      rintro e w1 ⟨rfl, hw1⟩
      have HB1 := hide (below_then (below_two w _ _) hw1)
      clear hw1
      go_wp2
      go_ret
      exact ⟨ret_bool (by rw [HM.out]; rfl), HB1.out⟩
  · cases b with
    | false =>
      go_enter Tryz.func98, Tryz.ntmps98
      go_wp2
      go_ret
      exact ⟨ret_bool (by rw [HM.out]; rfl), below_two _ _ _⟩
    | true =>
      go_enter Tryz.func98, Tryz.ntmps98
      go_wp2_with fail
      refine (c _).mono ?_
      rintro e w1 ⟨rfl, hw1⟩
      have HB1 := hide (below_then (below_two w _ _) hw1)
      clear hw1
      go_wp2
      go_ret
      exact ⟨ret_bool (by rw [HM.out]; rfl), HB1.out⟩
set_option maxRecDepth 100000 in
set_option maxHeartbeats 3200000 in
theorem qmay_field (n t : Int) (s f : Bs) (w : World) : Calls Tryz.prog 98 #[.agg #[.int .i64 4, .int .i64 n, .int .i64 t, .string ⟨s.toArray⟩, .string ⟨f.toArray⟩]] w fun e w' => e = .returned (.bool (mayP ⟨4, s, f, n, t⟩)) ∧ Below w.heap.size w w' := by
  have HM : Hid (mayP ⟨4, s, f, n, t⟩ = (decide (n = 0 ∧ t = 0) && (nameB s && wordB f))) := by
    show (decide (n = 0) && (decide (t = 0) && (nameB s && wordB f))) = _
    rw [Bool.decide_and, Bool.and_assoc]
  have c := fun W => qName_any s W
  have c2 := fun W => qWord_any f W
  obtain ⟨b, hrun, hb⟩ := eq44 0 n t 0 0 0 ⟨#[]⟩ ⟨#[]⟩ ⟨#[]⟩ ⟨#[]⟩
  have HB : Hid (b = decide (n = 0 ∧ t = 0)) := by
    show _ = _
    rw [hb, decide_eq_decide]; simp
  generalize (⟨s.toArray⟩ : ByteArray) = S at *
  generalize (⟨f.toArray⟩ : ByteArray) = F at *
  clear hb
  rw [← HB.out] at HM
  clear HB
  cases b with
  | false =>
    go_enter Tryz.func98, Tryz.ntmps98
    go_wp2
    go_ret
    exact ⟨ret_bool (by rw [HM.out]; rfl), below_two _ _ _⟩
  | true =>
    have m0 : ∀ o o', ((w.alloc (.cells #[.int .i64 4, .int .i64 n, .int .i64 t, .string S, .string F] o)).alloc o').heap[w.heap.size]? = some (.cells #[.int .i64 4, .int .i64 n, .int .i64 t, .string S, .string F] o) := fun o o' => by
      rw [← heap_alloc_new w (.cells #[.int .i64 4, .int .i64 n, .int .i64 t, .string S, .string F] o)]
      exact Below.heap_alloc _ _ _ (by rw [World.size_alloc]; omega)
    go_enter Tryz.func98, Tryz.ntmps98
    go_wp2_with fail
    refine (c _).mono ?_
    rintro e w1 ⟨rfl, hw1⟩
    have HB1 := hide (below_then (below_two w _ _) hw1)
    have m1 := (hw1.block w.heap.size (by simp only [World.size_alloc]; omega)).trans (m0 _ _)
    have d4 : w1.cell? ⟨w.heap.size, 4, none⟩ = some (.string F) := by rw [Lib.cell_of_heap m1]; rfl
    clear hw1 m1 m0
    cases hn : nameB s with
    | false =>
      rw [hn] at HM
      go_wp2
      go_ret
      exact ⟨ret_bool (by rw [HM.out]; rfl), HB1.out⟩
    | true =>
      rw [hn] at HM
      go_wp2_with fail
      refine (c2 _).mono ?_
      rintro e w2 ⟨rfl, hw2⟩
      subst hw2
      go_wp2
      go_ret
      exact ⟨ret_bool (by rw [HM.out]; rfl), HB1.out⟩
set_option maxRecDepth 100000 in
set_option maxHeartbeats 3200000 in
theorem qmay_op (n t : Int) (s f : Bs) (w : World) : Calls Tryz.prog 98 #[.agg #[.int .i64 5, .int .i64 n, .int .i64 t, .string ⟨s.toArray⟩, .string ⟨f.toArray⟩]] w fun e w' => e = .returned (.bool (mayP ⟨5, s, f, n, t⟩)) ∧ Below w.heap.size w w' := by
  have HM : Hid (mayP ⟨5, s, f, n, t⟩ = (decide (t = 0 ∧ s = [] ∧ f = []) && (decide (1 ≤ n) && decide (n ≤ 16)))) := by
    show (decide (s = []) && (decide (f = []) && (decide (t = 0) && (decide (1 ≤ n) && decide (n ≤ 16))))) = _
    rw [Bool.eq_iff_iff]; simp; constructor
    · rintro ⟨a, b, c, d, e⟩; exact ⟨⟨by assumption, by assumption, by assumption⟩, by assumption, by assumption⟩
    · rintro ⟨⟨a, b, c⟩, d, e⟩; exact ⟨by assumption, by assumption, by assumption, by assumption, by assumption⟩
  obtain ⟨b, hrun, hb⟩ := eq44 0 0 t 0 0 0 ⟨s.toArray⟩ ⟨f.toArray⟩ ⟨#[]⟩ ⟨#[]⟩
  have HB : Hid (b = decide (t = 0 ∧ s = [] ∧ f = [])) := by
    show _ = _
    rw [hb, decide_eq_decide, text_nil, text_nil]; simp
  generalize (⟨s.toArray⟩ : ByteArray) = S at *
  generalize (⟨f.toArray⟩ : ByteArray) = F at *
  clear hb
  rw [← HB.out] at HM
  clear HB
  cases b with
  | false =>
    go_enter Tryz.func98, Tryz.ntmps98
    go_wp2
    go_ret
    exact ⟨ret_bool (by rw [HM.out]; rfl), below_two _ _ _⟩
  | true =>
    by_cases hn : 1 ≤ n
    · rw [decide_eq_true hn] at HM
      go_enter Tryz.func98, Tryz.ntmps98
      go_wp2
      go_ret
      exact ⟨ret_bool (by rw [HM.out]; rfl), below_two _ _ _⟩
    · rw [decide_eq_false hn] at HM
      go_enter Tryz.func98, Tryz.ntmps98
      go_wp2
      go_ret
      exact ⟨ret_bool (by rw [HM.out]; rfl), below_two _ _ _⟩
set_option maxRecDepth 100000 in
set_option maxHeartbeats 3200000 in
theorem qmay_to (n t : Int) (s f : Bs) (w : World) : Calls Tryz.prog 98 #[.agg #[.int .i64 6, .int .i64 n, .int .i64 t, .string ⟨s.toArray⟩, .string ⟨f.toArray⟩]] w fun e w' => e = .returned (.bool (mayP ⟨6, s, f, n, t⟩)) ∧ Below w.heap.size w w' := by
  have HM : Hid (mayP ⟨6, s, f, n, t⟩ = (decide (n = 0 ∧ s = [] ∧ f = []) && (decide (2 ≤ t) && decide (t ≤ 4)))) := by
    show (decide (s = []) && (decide (f = []) && (decide (n = 0) && (decide (2 ≤ t) && decide (t ≤ 4))))) = _
    rw [Bool.eq_iff_iff]; simp; constructor
    · rintro ⟨a, b, c, d, e⟩; exact ⟨⟨by assumption, by assumption, by assumption⟩, by assumption, by assumption⟩
    · rintro ⟨⟨a, b, c⟩, d, e⟩; exact ⟨by assumption, by assumption, by assumption, by assumption, by assumption⟩
  obtain ⟨b, hrun, hb⟩ := eq44 0 n 0 0 0 0 ⟨s.toArray⟩ ⟨f.toArray⟩ ⟨#[]⟩ ⟨#[]⟩
  have HB : Hid (b = decide (n = 0 ∧ s = [] ∧ f = [])) := by
    show _ = _
    rw [hb, decide_eq_decide, text_nil, text_nil]; simp
  generalize (⟨s.toArray⟩ : ByteArray) = S at *
  generalize (⟨f.toArray⟩ : ByteArray) = F at *
  clear hb
  rw [← HB.out] at HM
  clear HB
  cases b with
  | false =>
    go_enter Tryz.func98, Tryz.ntmps98
    go_wp2
    go_ret
    exact ⟨ret_bool (by rw [HM.out]; rfl), below_two _ _ _⟩
  | true =>
    by_cases hn : 2 ≤ t
    · rw [decide_eq_true hn] at HM
      go_enter Tryz.func98, Tryz.ntmps98
      go_wp2
      go_ret
      exact ⟨ret_bool (by rw [HM.out]; rfl), below_two _ _ _⟩
    · rw [decide_eq_false hn] at HM
      go_enter Tryz.func98, Tryz.ntmps98
      go_wp2
      go_ret
      exact ⟨ret_bool (by rw [HM.out]; rfl), below_two _ _ _⟩
set_option maxRecDepth 100000 in
set_option maxHeartbeats 3200000 in
theorem qmay_none (k n t : Int) (hk : k < 1 ∨ 6 < k) (S F : ByteArray) (w : World) : Calls Tryz.prog 98 #[.agg #[.int .i64 k, .int .i64 n, .int .i64 t, .string S, .string F]] w fun e w' => e = .returned (.bool false) ∧ Below w.heap.size w w' := by
  have q1 : (k == 1) = false := by rw [beq_eq_false_iff_ne]; omega
  have q2 : (k == 2) = false := by rw [beq_eq_false_iff_ne]; omega
  have q3 : (k == 3) = false := by rw [beq_eq_false_iff_ne]; omega
  have q4 : (k == 4) = false := by rw [beq_eq_false_iff_ne]; omega
  have q5 : (k == 5) = false := by rw [beq_eq_false_iff_ne]; omega
  have q6 : (k == 6) = false := by rw [beq_eq_false_iff_ne]; omega
  clear hk
  go_enter Tryz.func98, Tryz.ntmps98
  go_wp2
  go_ret
  exact ⟨rfl, below_two _ _ _⟩
theorem qmay_any (k n t : Int) (s f : Bs) (w : World) : Calls Tryz.prog 98 #[.agg #[.int .i64 k, .int .i64 n, .int .i64 t, .string ⟨s.toArray⟩, .string ⟨f.toArray⟩]] w fun e w' => e = .returned (.bool (mayP ⟨k, s, f, n, t⟩)) ∧ Below w.heap.size w w' := by
  by_cases h1 : k = 1
  · subst h1; exact qmay_num n t s f w
  by_cases h2 : k = 2 ∨ k = 3
  · exact qmay_name k n t h2 s f w
  by_cases h4 : k = 4
  · subst h4; exact qmay_field n t s f w
  by_cases h5 : k = 5
  · subst h5; exact qmay_op n t s f w
  by_cases h6 : k = 6
  · subst h6; exact qmay_to n t s f w
  have e : mayP ⟨k, s, f, n, t⟩ = false := by
    unfold mayP
    simp only []
    rw [if_neg h1, if_neg h2, if_neg h4, if_neg h5, if_neg h6]
  rw [e]
  exact qmay_none k n t (by omega) _ _ w
end Go.Proofs.YtldjiieckddhkaaGreatDoor
namespace Go.Proofs.YtldjiieckddhkaaGreatDoor
open Go.RowKit
theorem qmay_v (x : Pv) (w : World) : Calls Tryz.prog 98 #[.agg #[.int .i64 x.k, .int .i64 x.n, .int .i64 x.t, .string x.s, .string x.f]] w fun e w' => e = .returned (.bool (mayP (ptV x))) ∧ Below w.heap.size w w' := by
  have h := qmay_any x.k x.n x.t x.s.data.toList x.f.data.toList w
  rw [text_back, text_back] at h
  exact h
set_option maxRecDepth 100000 in
set_option maxHeartbeats 3200000 in
theorem qCheck_any (v : Value) (x : List Pv) (w : World) (hL : PLst w v x) (hlen : x.length ≤ 4398046510976) : Calls Tryz.prog 55 #[v] w fun e w' => e = .returned (.int .i64 (checkP (x.map ptV))) ∧ Below w.heap.size w w' := by
  have HPL := hide hL
  obtain ⟨a, b, off, cap, rfl, hA, hI⟩ := hL
  by_cases h5 : 500 < x.length
  · have HE : Hid (checkP (x.map ptV) = 2) := by show _ = _; unfold checkP; rw [if_pos (by rw [List.length_map]; exact h5)]
    have i1 : (500 : Int) < (x.length : Int) := by omega
    have i2 : (x.length : Int) ≤ 4398046510976 := by omega
    clear hA hI h5 hlen HPL
    generalize x.length = N at *
    go_enter Tryz.func55, Tryz.ntmps55
    go_wp2
    go_ret
    exact ⟨by rw [HE.out]; rfl, Below.refl _ _⟩
  have HA := hide hA
  have HI := hide hI
  have HX5 : Hid (¬ 500 < (x.map ptV).length) := by show ¬ _; rw [List.length_map]; exact h5
  have HDO : Hid (∀ W, Below w.heap.size w W → Calls Tryz.prog 99 #[.slice a x.length cap] W fun e w' => e = .returned (.int .i64 ((depth (x.map ptV) : Nat) : Int)) ∧ Below W.heap.size W w') := fun W hW => qDepth_any _ x W (HPL.out.below hW (Nat.le_refl _)) (by omega)
  obtain ⟨N, hN⟩ : ∃ N, N = x.length := ⟨_, rfl⟩
  have HN := hide hN
  rw [← hN] at h5 HDO ⊢
  have n5 : ¬ (500 : Int) < (N : Int) := by omega
  have n0 : (0 : Int) ≤ (N : Int) := by omega
  clear hN hA hI hlen HPL
  go_enter Tryz.func55, Tryz.ntmps55
  go_wp2_with fail
  go_loopw [3] (fun i wr => ∃ (k : Nat), k ≤ N ∧ i = .int .i64 (k : Int) ∧ Hid ((∀ (j : Nat) p, j < k → (x.map ptV)[j]? = some p → mayP p = true) ∧ Below w.heap.size w wr)) (fun i _ => N - (intOf i).toNat)
  case atStart => exact ⟨0, by omega, rfl, fun j p hj => absurd hj (Nat.not_lt_zero _), Below.refl _ _⟩
  case round =>
    obtain ⟨k, hk, rfl, hh⟩ := hrel
    have HM := hide hh.out.1
    have HB := hide hh.out.2
    clear hh
    by_cases hlt : k < N
    · have j1 : (k : Int) < (N : Int) := by omega
      have j0 : (0 : Int) ≤ (k : Int) := by omega
      obtain ⟨y, hy⟩ : ∃ y, x[k]? = some y := ⟨_, List.getElem?_eq_getElem (by rw [← HN.out]; exact hlt)⟩
      have HY : Hid ((x.map ptV)[k]? = some (ptV y)) := by show _ = _; rw [List.getElem?_map, hy]; rfl
      obtain ⟨hbw, rfl⟩ := HA.out (by rw [← HN.out]; omega)
      obtain ⟨q0, q1, q2, q3, q4⟩ := HI.out k y hy
      have c0 := (HB.out.cell (p := ⟨b, off + k * 5, none⟩) hbw).trans q0
      have c1 := (HB.out.cell (p := ⟨b, off + k * 5 + 1, none⟩) hbw).trans q1
      have c2 := (HB.out.cell (p := ⟨b, off + k * 5 + 2, none⟩) hbw).trans q2
      have c3 := (HB.out.cell (p := ⟨b, off + k * 5 + 3, none⟩) hbw).trans q3
      have c4 := (HB.out.cell (p := ⟨b, off + k * 5 + 4, none⟩) hbw).trans q4
      clear q0 q1 q2 q3 q4 hy
      have m2 := qmay_v y wr
      go_wp2_with fail
      refine m2.mono ?_
      rintro e w2 ⟨rfl, hb2⟩
      have BB2 := hide (HB.out.trans (hb2.mono HB.out.size))
      clear m2 hb2 c0 c1 c2 c3 c4
      cases hm : mayP (ptV y) with
      | false =>
        have HE := hide (check_may HX5.out HY.out hm)
        go_wp2
        go_ret
        exact ⟨by rw [HE.out]; rfl, BB2.out⟩
      | true =>
        have HMM := hide hm
        have HNM : Hid (∀ (j : Nat) p, j < k + 1 → (x.map ptV)[j]? = some p → mayP p = true) := fun j p hj hp => by
          rcases Nat.lt_or_ge j k with h | h
          · exact HM.out j p h hp
          · have : j = k := by omega
            subst this
            rw [← Option.some.inj (HY.out.symm.trans hp)]
            exact HMM.out
        clear hm HMM HM
        go_wp2
        go_roundw
        case rel => exact ⟨k + 1, by omega, by go_num, HNM.out, BB2.out⟩
        case measure => simp [intOf]; omega
    · obtain rfl : k = N := by omega
      have HMM : Hid ((x.map ptV).all mayP = true) := by
        show _ = _
        rw [List.all_eq_true]
        intro p hp
        obtain ⟨i, hi⟩ := List.mem_iff_getElem?.1 hp
        exact HM.out i p (by have := (List.getElem?_eq_some_iff.1 hi).1; rw [List.length_map, ← HN.out] at this; exact this) hi
      have c9 := HDO.out wr HB.out
      have HZ : Hid (checkP (x.map ptV) = if depth (x.map ptV) = 0 ∨ 24 < depth (x.map ptV) then 60 else 0) := by
        show _ = _
        unfold checkP
        rw [if_neg HX5.out, if_neg (by rw [HMM.out]; decide)]
      have HDEP : Hid (depth (x.map ptV) ≤ 500) := by show _ ≤ _; exact Nat.le_trans (depth_le_len _) (by have := HX5.out; omega)
      obtain ⟨dd, hdd⟩ : ∃ dd, dd = depth (x.map ptV) := ⟨_, rfl⟩
      rw [← hdd] at c9 HZ HDEP
      clear hdd HM HMM HDO
      have d5 : (dd : Int) ≤ 500 := by have := HDEP.out; omega
      have d0 : (0 : Int) ≤ (dd : Int) := by omega
      go_wp2_with fail
      refine c9.mono ?_
      rintro e w2 ⟨rfl, hb2⟩
      have BB2 := hide (HB.out.trans (hb2.mono HB.out.size))
      clear c9 hb2
      by_cases h0 : dd = 0
      · have HE : Hid (checkP (x.map ptV) = 60) := by show _ = _; rw [HZ.out, if_pos (.inl h0)]
        subst h0
        clear HZ
        go_wp2
        go_ret
        exact ⟨by rw [HE.out]; rfl, BB2.out⟩
      · have i1 : ((dd : Int) == 0) = false := by rw [beq_eq_false_iff_ne]; omega
        by_cases h24 : 24 < dd
        · have HE : Hid (checkP (x.map ptV) = 60) := by show _ = _; rw [HZ.out, if_pos (.inr h24)]
          have i2 : (24 : Int) < (dd : Int) := by omega
          clear HZ
          go_wp2
          go_ret
          exact ⟨by rw [HE.out]; rfl, BB2.out⟩
        · have HE : Hid (checkP (x.map ptV) = 0) := by show _ = _; rw [HZ.out, if_neg (by omega)]
          have i2 : ¬ (24 : Int) < (dd : Int) := by omega
          clear HZ
          go_wp2
          go_ret
          exact ⟨by rw [HE.out]; rfl, BB2.out⟩
end Go.Proofs.YtldjiieckddhkaaGreatDoor
