/- The contracts of num.One and num.Result: their ways. | The contract of the document's Has: which operations there are. | The contracts of the document's Two, One and Result. -/
import Derived.Test.YtlckedionmgjjaaDoorN4TwoW
import Derived.Test.YtlckedionmgjjaaDoorMg3
import Derived.Test.YtlckedionmgjjaaDoorMg4
namespace Go.Proofs.YtlckedionmgjjaaDoor.Four
open Go.RowKit
set_option maxRecDepth 100000 in
set_option maxHeartbeats 1600000 in
theorem one_no (op t a : Int) (w : World) (cf : Calls Tryd.prog 82 #[.int .i64 op, .int .i64 t] w fun e w' => e = .returned (.tuple #[.agg noRow, .bool false]) ∧ Below w.heap.size w w') :
    Calls Tryd.prog 74 #[.int .i64 op, .int .i64 t, .int .i64 a] w fun e w' => e = .returned (.tuple #[.int .i64 0, .int .i64 40]) ∧ Below w.heap.size w w' := by
  unfold noRow at cf
  have ho := cells_one 0 false false .nilFunc .nilFunc rfl rfl
  go_enter Tryd.func74, Tryd.ntmps74
  go_wp2_with fail
  refine cf.mono ?_
  rintro e w1 ⟨rfl, hb1⟩
  have HB := hide hb1
  clear hb1 cf
  go_wp2_with ((with_reducible refine at_store (ty := 121) ?_); go_must (refine wpList_store_rowTo rfl 121 _ _ rfl rfl _ #[.int .u8 0, .bool false, .bool false, .nilFunc, .nilFunc] rfl rfl 121 noRow (heap_alloc_new _ _) size121 rfl ho ?_; rw [World.setRow_alloc_new]))
  go_ret2
  exact ⟨rfl, HB.out.alloc HB.out.size _⟩
set_option maxRecDepth 100000 in
set_option maxHeartbeats 1600000 in
theorem one_nil (op t a S : Int) (C D : Bool) (n : Nat) (w : World) (cf : Calls Tryd.prog 82 #[.int .i64 op, .int .i64 t] w fun e w' => e = .returned (.tuple #[.agg #[.int .u8 S, .bool C, .bool D, .func (.func n) #[] #[], .nilFunc], .bool true]) ∧ Below w.heap.size w w') :
    Calls Tryd.prog 74 #[.int .i64 op, .int .i64 t, .int .i64 a] w fun e w' => e = .returned (.tuple #[.int .i64 0, .int .i64 40]) ∧ Below w.heap.size w w' := by
  have hz := z44
  have ho := cells_one S C D (.func (.func n) #[] #[]) .nilFunc rfl rfl
  go_enter Tryd.func74, Tryd.ntmps74
  go_wp2_with fail
  refine cf.mono ?_
  rintro e w1 ⟨rfl, hb1⟩
  have HB := hide hb1
  clear hb1 cf
  go_wp2_with ((with_reducible refine at_store (ty := 121) ?_); go_must (refine wpList_store_rowTo rfl 121 _ _ rfl rfl _ #[.int .u8 S, .bool C, .bool D, .func (.func n) #[] #[], .nilFunc] rfl rfl 121 noRow (heap_alloc_new _ _) size121 rfl ho ?_; rw [World.setRow_alloc_new]))
  go_ret2
  exact ⟨rfl, HB.out.alloc HB.out.size _⟩
set_option maxRecDepth 100000 in
set_option maxHeartbeats 1600000 in
theorem one_range (op t a S : Int) (C D : Bool) (n : Nat) (w : World) (hg : Glo w) (ha : fitB t a = false)
    (cf : Calls Tryd.prog 82 #[.int .i64 op, .int .i64 t] w fun e w' => e = .returned (.tuple #[.agg #[.int .u8 S, .bool C, .bool D, .nilFunc, .func (.func n) #[] #[]], .bool true]) ∧ Below w.heap.size w w') :
    Calls Tryd.prog 74 #[.int .i64 op, .int .i64 t, .int .i64 a] w fun e w' => e = .returned (.tuple #[.int .i64 0, .int .i64 1]) ∧ Below w.heap.size w w' := by
  have hq := q44 n
  have ho := cells_one S C D .nilFunc (.func (.func n) #[] #[]) rfl rfl
  have HG := hide hg
  have H0 := hide hg.lt
  have fa := fun W hg => fits_any t a W hg
  rw [ha] at fa
  clear hg ha
  go_enter Tryd.func74, Tryd.ntmps74
  go_wp2_with fail
  refine cf.mono ?_
  rintro e w1 ⟨rfl, hb1⟩
  have HB := hide hb1
  clear hb1 cf
  go_wp2_with ((with_reducible refine at_store (ty := 121) ?_); go_must (refine wpList_store_rowTo rfl 121 _ _ rfl rfl _ #[.int .u8 S, .bool C, .bool D, .nilFunc, .func (.func n) #[] #[]] rfl rfl 121 noRow (heap_alloc_new _ _) size121 rfl ho ?_; rw [World.setRow_alloc_new]))
  refine (fa _ (HG.out.below (HB.out.alloc HB.out.size _) H0.out)).mono ?_
  rintro e w2 ⟨rfl, rfl⟩
  go_wp2
  go_ret2
  exact ⟨rfl, HB.out.alloc HB.out.size _⟩
set_option maxRecDepth 100000 in
set_option maxHeartbeats 1600000 in
theorem one_core (op t a S r : Int) (C D : Bool) (n : Nat) (hn : ∀ args W, (callFunc n args).run Tryd.prog W = .ok (.enter n args) W) (w : World) (hg : Glo w) (ha : fitB t a = true)
    (c2 : ∀ W, Calls Tryd.prog n #[.int .i64 a] W fun e w' => e = .returned (.int .i64 r) ∧ w' = W)
    (cf : Calls Tryd.prog 82 #[.int .i64 op, .int .i64 t] w fun e w' => e = .returned (.tuple #[.agg #[.int .u8 S, .bool C, .bool D, .nilFunc, .func (.func n) #[] #[]], .bool true]) ∧ Below w.heap.size w w') :
    Calls Tryd.prog 74 #[.int .i64 op, .int .i64 t, .int .i64 a] w fun e w' => e = .returned (.tuple #[.int .i64 (wrN (if C then 1 else t) r), .int .i64 0]) ∧ Below w.heap.size w w' := by
  have hq := q44 n
  have ho := cells_one S C D .nilFunc (.func (.func n) #[] #[]) rfl rfl
  have HG := hide hg
  have H0 := hide hg.lt
  have fa := fun W hg => fits_any t a W hg
  have d3 := wrapped_any (if C then 1 else t) r
  have c3 := result_any S t C D .nilFunc (.func (.func n) #[] #[])
  generalize (if C then 1 else t : Int) = T at *
  rw [ha] at fa
  clear hg ha
  go_enter Tryd.func74, Tryd.ntmps74
  go_wp2_with fail
  refine cf.mono ?_
  rintro e w1 ⟨rfl, hb1⟩
  have HB := hide hb1
  clear hb1 cf
  go_wp2_with ((with_reducible refine at_store (ty := 121) ?_); go_must (refine wpList_store_rowTo rfl 121 _ _ rfl rfl _ #[.int .u8 S, .bool C, .bool D, .nilFunc, .func (.func n) #[] #[]] rfl rfl 121 noRow (heap_alloc_new _ _) size121 rfl ho ?_; rw [World.setRow_alloc_new]))
  refine (fa _ (HG.out.below (HB.out.alloc HB.out.size _) H0.out)).mono ?_
  rintro e w2 ⟨rfl, rfl⟩
  go_wp2_with fail
  have N0 := row_new (S := S) (C := C) (D := D) (F := .nilFunc) (G := .func (.func n) #[] #[]) HB.out
  have C29 := hide (fun W (h : W.cell? ⟨w1.heap.size, 0, none⟩ = some (.int .u8 S) ∧ W.cell? ⟨w1.heap.size, 1, none⟩ = some (.bool C) ∧ W.cell? ⟨w1.heap.size, 2, none⟩ = some (.bool D) ∧ W.cell? ⟨w1.heap.size, 3, none⟩ = some .nilFunc ∧ W.cell? ⟨w1.heap.size, 4, none⟩ = some (.func (.func n) #[] #[]) ∧ Below w.heap.size w W) => (c3 W).mono fun e w' (hh : e = .returned (.int .i64 T) ∧ Below W.heap.size W w') => (⟨hh.1, row_keeps hh.2 h⟩ : e = .returned (.int .i64 T) ∧ w'.cell? ⟨w1.heap.size, 0, none⟩ = some (.int .u8 S) ∧ w'.cell? ⟨w1.heap.size, 1, none⟩ = some (.bool C) ∧ w'.cell? ⟨w1.heap.size, 2, none⟩ = some (.bool D) ∧ w'.cell? ⟨w1.heap.size, 3, none⟩ = some .nilFunc ∧ w'.cell? ⟨w1.heap.size, 4, none⟩ = some (.func (.func n) #[] #[]) ∧ Below w.heap.size w w'))
  have C2 := hide (fun W (h : W.cell? ⟨w1.heap.size, 0, none⟩ = some (.int .u8 S) ∧ W.cell? ⟨w1.heap.size, 1, none⟩ = some (.bool C) ∧ W.cell? ⟨w1.heap.size, 2, none⟩ = some (.bool D) ∧ W.cell? ⟨w1.heap.size, 3, none⟩ = some .nilFunc ∧ W.cell? ⟨w1.heap.size, 4, none⟩ = some (.func (.func n) #[] #[]) ∧ Below w.heap.size w W) => (c2 W).mono fun e w' (hh : e = .returned (.int .i64 r) ∧ w' = W) => (⟨hh.1, by rw [hh.2]; exact h⟩ : e = .returned (.int .i64 r) ∧ w'.cell? ⟨w1.heap.size, 0, none⟩ = some (.int .u8 S) ∧ w'.cell? ⟨w1.heap.size, 1, none⟩ = some (.bool C) ∧ w'.cell? ⟨w1.heap.size, 2, none⟩ = some (.bool D) ∧ w'.cell? ⟨w1.heap.size, 3, none⟩ = some .nilFunc ∧ w'.cell? ⟨w1.heap.size, 4, none⟩ = some (.func (.func n) #[] #[]) ∧ Below w.heap.size w w'))
  have C28 := hide (fun W (h : W.cell? ⟨w1.heap.size, 0, none⟩ = some (.int .u8 S) ∧ W.cell? ⟨w1.heap.size, 1, none⟩ = some (.bool C) ∧ W.cell? ⟨w1.heap.size, 2, none⟩ = some (.bool D) ∧ W.cell? ⟨w1.heap.size, 3, none⟩ = some .nilFunc ∧ W.cell? ⟨w1.heap.size, 4, none⟩ = some (.func (.func n) #[] #[]) ∧ Below w.heap.size w W) => (d3 W).mono fun e w' (hh : e = .returned (.int .i64 (wrN T r)) ∧ w' = W) => (⟨hh.1, by rw [hh.2]; exact h⟩ : e = .returned (.int .i64 (wrN T r)) ∧ w'.cell? ⟨w1.heap.size, 0, none⟩ = some (.int .u8 S) ∧ w'.cell? ⟨w1.heap.size, 1, none⟩ = some (.bool C) ∧ w'.cell? ⟨w1.heap.size, 2, none⟩ = some (.bool D) ∧ w'.cell? ⟨w1.heap.size, 3, none⟩ = some .nilFunc ∧ w'.cell? ⟨w1.heap.size, 4, none⟩ = some (.func (.func n) #[] #[]) ∧ Below w.heap.size w w'))
  clear c3 c2 d3 HG H0 HB fa hq ho
  generalize w1.heap.size = g at *
  generalize (w1.alloc _) = W0 at *
  go_region_held3 (fun W => W.cell? ⟨g, 0, none⟩ = some (.int .u8 S) ∧ W.cell? ⟨g, 1, none⟩ = some (.bool C) ∧ W.cell? ⟨g, 2, none⟩ = some (.bool D) ∧ W.cell? ⟨g, 3, none⟩ = some .nilFunc ∧ W.cell? ⟨g, 4, none⟩ = some (.func (.func n) #[] #[]) ∧ Below w.heap.size w W) (first | assumption | exact row_drew N0) (first | (go_at_call 84; refine (C29.out _ ?_).mono ?_; assumption; rintro e w2 ⟨rfl, hrow⟩) | (go_at_call 83; refine (C28.out _ ?_).mono ?_; assumption; rintro e w2 ⟨rfl, hrow⟩) | (refine (C2.out _ ?_).mono ?_; assumption; rintro e w2 ⟨rfl, hrow⟩))
  go_wp2_with fail
  go_ret2
  exact ⟨rfl, hrow.2.2.2.2.2⟩
set_option maxRecDepth 100000 in
set_option maxHeartbeats 1600000 in
theorem res_no (op t : Int) (w : World) (cf : Calls Tryd.prog 82 #[.int .i64 op, .int .i64 t] w fun e w' => e = .returned (.tuple #[.agg noRow, .bool false]) ∧ Below w.heap.size w w') :
    Calls Tryd.prog 80 #[.int .i64 op, .int .i64 t] w fun e w' => e = .returned (.tuple #[.int .i64 0, .int .i64 40]) ∧ Below w.heap.size w w' := by
  unfold noRow at cf
  have ho := cells_one 0 false false .nilFunc .nilFunc rfl rfl
  go_enter Tryd.func80, Tryd.ntmps80
  go_wp2_with fail
  refine cf.mono ?_
  rintro e w1 ⟨rfl, hb1⟩
  have HB := hide hb1
  clear hb1 cf
  go_wp2_with ((with_reducible refine at_store (ty := 121) ?_); go_must (refine wpList_store_rowTo rfl 121 _ _ rfl rfl _ #[.int .u8 0, .bool false, .bool false, .nilFunc, .nilFunc] rfl rfl 121 noRow (heap_alloc_new _ _) size121 rfl ho ?_; rw [World.setRow_alloc_new]))
  go_ret2
  exact ⟨rfl, HB.out.alloc HB.out.size _⟩
set_option maxRecDepth 100000 in
set_option maxHeartbeats 1600000 in
theorem res_ok (op t S : Int) (C D : Bool) (F G : Value) (h1 : F.oneCell' = true) (h2 : G.oneCell' = true) (w : World) (cf : Calls Tryd.prog 82 #[.int .i64 op, .int .i64 t] w fun e w' => e = .returned (.tuple #[.agg #[.int .u8 S, .bool C, .bool D, F, G], .bool true]) ∧ Below w.heap.size w w') :
    Calls Tryd.prog 80 #[.int .i64 op, .int .i64 t] w fun e w' => e = .returned (.tuple #[.int .i64 (if C then 1 else t), .int .i64 0]) ∧ Below w.heap.size w w' := by
  have ho := cells_one S C D F G h1 h2
  have c3 := result_any S t C D F G
  generalize (if C then 1 else t : Int) = T at *
  clear h1 h2
  go_enter Tryd.func80, Tryd.ntmps80
  go_wp2_with fail
  refine cf.mono ?_
  rintro e w1 ⟨rfl, hb1⟩
  have HB := hide hb1
  clear hb1 cf
  go_wp2_with ((with_reducible refine at_store (ty := 121) ?_); go_must (refine wpList_store_rowTo rfl 121 _ _ rfl rfl _ #[.int .u8 S, .bool C, .bool D, F, G] rfl rfl 121 noRow (heap_alloc_new _ _) size121 rfl ho ?_; rw [World.setRow_alloc_new]))
  refine (c3 _).mono ?_
  rintro e w2 ⟨rfl, hb2⟩
  have HB2 := hide (show Below w.heap.size w w2 from (HB.out.alloc HB.out.size _).trans (hb2.mono (by have := HB.out.size; simp; omega)))
  clear hb2 HB c3 ho
  go_wp2
  go_ret2
  exact ⟨rfl, HB2.out⟩
end Go.Proofs.YtlckedionmgjjaaDoor.Four
namespace Go.Proofs.YtlckedionmgjjaaDoor.Four
open Go.RowKit
theorem ne_dec' (a b : Int) : (a != b) = decide (a ≠ b) := by
  rw [Bool.eq_iff_iff]; simp
set_option maxRecDepth 100000 in
theorem has1_any (op t : Int) (w : World) : Calls Tryd.prog 65 #[.int .i64 op, .int .i64 t, .int .i64 1] w fun e w' => e = .returned (.bool (has1 op t)) ∧ w' = w := by
  have c := type_any t
  cases hT : tyB t with
  | false =>
    have E := hide (show has1 op t = false by unfold has1; rw [hT]; rfl)
    rw [hT] at c
    clear hT
    go_enter Tryd.func65, Tryd.ntmps65
    go_wp2_with fail
    refine (c _).mono ?_
    rintro e w1 ⟨rfl, rfl⟩
    go_wp2
    go_ret
    exact ⟨ret_bool (by rw [E.out]), rfl⟩
  | true =>
    have E := hide (show has1 op t = ((decide (op = 15) && decide (t ≠ 1)) || (decide (op = 16) && decide (t ≠ 4))) by unfold has1; rw [hT]; rfl)
    have ht : t = 1 ∨ t = 2 ∨ t = 3 ∨ t = 4 := by
      unfold tyB at hT
      rw [Bool.and_eq_true] at hT
      have h1 := of_decide_eq_true hT.1
      have h2 := of_decide_eq_true hT.2
      omega
    rw [hT] at c
    clear hT
    by_cases h15 : op = 15
    · subst h15
      rcases ht with rfl | rfl | rfl | rfl
      all_goals
        go_enter Tryd.func65, Tryd.ntmps65
        go_wp2_with fail
        refine (c _).mono ?_
        rintro e w1 ⟨rfl, rfl⟩
        go_wp2
        go_ret
        exact ⟨ret_bool (by rw [E.out]; rfl), rfl⟩
    · by_cases h16 : op = 16
      · subst h16
        rcases ht with rfl | rfl | rfl | rfl
        all_goals
          go_enter Tryd.func65, Tryd.ntmps65
          go_wp2_with fail
          refine (c _).mono ?_
          rintro e w1 ⟨rfl, rfl⟩
          go_wp2
          go_ret
          exact ⟨ret_bool (by rw [E.out]; rfl), rfl⟩
      · have E' := hide (show has1 op t = false by rw [E.out, decide_eq_false h15, decide_eq_false h16]; rfl)
        clear E
        rcases ht with rfl | rfl | rfl | rfl
        all_goals
          go_enter Tryd.func65, Tryd.ntmps65
          go_wp2_with fail
          refine (c _).mono ?_
          rintro e w1 ⟨rfl, rfl⟩
          go_wp2
          go_ret
          exact ⟨ret_bool (by rw [E'.out]), rfl⟩
set_option maxRecDepth 100000 in
set_option maxHeartbeats 1600000 in
theorem has2_any (op t : Int) (w : World) : Calls Tryd.prog 65 #[.int .i64 op, .int .i64 t, .int .i64 2] w fun e w' => e = .returned (.bool (has2 op t)) ∧ w' = w := by
  have c := type_any t
  cases hT : tyB t with
  | false =>
    have E := hide (show has2 op t = false by unfold has2; rw [hT]; rfl)
    rw [hT] at c
    clear hT
    go_enter Tryd.func65, Tryd.ntmps65
    go_wp2_with fail
    refine (c _).mono ?_
    rintro e w1 ⟨rfl, rfl⟩
    go_wp2
    go_ret
    exact ⟨ret_bool (by rw [E.out]), rfl⟩
  | true =>
    have ht : t = 1 ∨ t = 2 ∨ t = 3 ∨ t = 4 := by
      unfold tyB at hT
      rw [Bool.and_eq_true] at hT
      have h1 := of_decide_eq_true hT.1
      have h2 := of_decide_eq_true hT.2
      omega
    rw [hT] at c
    by_cases ho : 1 ≤ op ∧ op ≤ 14
    · have : op = 1 ∨ op = 2 ∨ op = 3 ∨ op = 4 ∨ op = 5 ∨ op = 6 ∨ op = 7 ∨ op = 8 ∨ op = 9 ∨ op = 10 ∨ op = 11 ∨ op = 12 ∨ op = 13 ∨ op = 14 := by omega
      clear ho hT
      rcases this with rfl | rfl | rfl | rfl | rfl | rfl | rfl | rfl | rfl | rfl | rfl | rfl | rfl | rfl <;> rcases ht with rfl | rfl | rfl | rfl
      all_goals
        go_enter Tryd.func65, Tryd.ntmps65
        go_wp2_with fail
        refine (c _).mono ?_
        rintro e w1 ⟨rfl, rfl⟩
        go_wp2
        go_ret
        exact ⟨ret_bool (by decide), rfl⟩
    · have E := hide (show has2 op t = false by
        unfold has2
        rw [hT, if_neg (by omega), if_neg (by omega), if_neg (by omega), decide_eq_false (by omega)]; rfl)
      have n1 : ¬ op = 1 := by omega
      have n2 : ¬ op = 2 := by omega
      have n3 : ¬ op = 3 := by omega
      have n4 : ¬ op = 4 := by omega
      have n5 : ¬ op = 5 := by omega
      have n6 : ¬ op = 6 := by omega
      have n7 : ¬ op = 7 := by omega
      have n8 : ¬ op = 8 := by omega
      have n9 : ¬ op = 9 := by omega
      have n10 : ¬ op = 10 := by omega
      have n11 : ¬ op = 11 := by omega
      have n12 : ¬ op = 12 := by omega
      have n13 : ¬ op = 13 := by omega
      have n14 : ¬ op = 14 := by omega
      clear ho hT
      rcases ht with rfl | rfl | rfl | rfl
      all_goals
        go_enter Tryd.func65, Tryd.ntmps65
        go_wp2_with fail
        refine (c _).mono ?_
        rintro e w1 ⟨rfl, rfl⟩
        go_wp2
        go_ret
        exact ⟨ret_bool (by rw [E.out]; first | rfl | simp [*]), rfl⟩
end Go.Proofs.YtlckedionmgjjaaDoor.Four
namespace Go.Proofs.YtlckedionmgjjaaDoor.Four
open Go.RowKit
theorem has2_op {op t : Int} (h : has2 op t = true) : 1 ≤ op ∧ op ≤ 14 := by
  unfold has2 at h
  rw [Bool.and_eq_true] at h
  have h2 := h.2
  by_cases hc : 1 ≤ op ∧ op ≤ 14
  · exact hc
  · rw [if_neg (by omega), if_neg (by omega), if_neg (by omega)] at h2
    have := of_decide_eq_true h2; omega
theorem has1_op {op t : Int} (h : has1 op t = true) : op = 15 ∨ op = 16 := by
  unfold has1 at h
  rw [Bool.and_eq_true, Bool.or_eq_true, Bool.and_eq_true, Bool.and_eq_true] at h
  rcases h.2 with h | h
  · exact .inl (of_decide_eq_true h.1)
  · exact .inr (of_decide_eq_true h.1)
set_option maxRecDepth 100000 in
set_option maxHeartbeats 1600000 in
theorem resR_any (op t : Int) (w : World) : Calls Tryd.prog 67 #[.int .i64 op, .int .i64 t] w fun e w' => e = .returned (.tuple #[.int .i64 (resN op t).1, .int .i64 (resN op t).2]) ∧ w' = w := by
  have c := has1_any op t
  have d := has2_any op t
  have E := hide (show resN op t = if has1 op t = false ∧ has2 op t = false then (0, 40) else if 9 ≤ op ∧ op ≤ 14 then (1, 0) else (t, 0) from rfl)
  cases h1 : has1 op t with
  | false =>
    rw [h1] at c
    cases h2 : has2 op t with
    | false =>
      rw [if_pos ⟨h1, h2⟩] at E
      rw [h2] at d
      clear h1 h2
      go_enter Tryd.func67, Tryd.ntmps67
      go_wp2_with fail
      refine (c _).mono ?_
      rintro e w1 ⟨rfl, rfl⟩
      go_wp2_with fail
      refine (d _).mono ?_
      rintro e w1 ⟨rfl, rfl⟩
      go_wp2
      go_ret2
      exact ⟨by rw [E.out]; rfl, rfl⟩
    | true =>
      rw [if_neg (fun h => by rw [h2] at h; exact absurd h.2 (by decide))] at E
      rw [h2] at d
      have hop := has2_op h2
      clear h1 h2
      by_cases h9 : 9 ≤ op
      · rw [if_pos ⟨h9, hop.2⟩] at E
        have h14 : op ≤ 14 := hop.2
        clear hop
        go_enter Tryd.func67, Tryd.ntmps67
        go_wp2_with fail
        refine (c _).mono ?_
        rintro e w1 ⟨rfl, rfl⟩
        go_wp2_with fail
        refine (d _).mono ?_
        rintro e w1 ⟨rfl, rfl⟩
        go_wp2
        go_ret2
        exact ⟨by rw [E.out]; rfl, rfl⟩
      · rw [if_neg (fun h => h9 h.1)] at E
        clear hop
        go_enter Tryd.func67, Tryd.ntmps67
        go_wp2_with fail
        refine (c _).mono ?_
        rintro e w1 ⟨rfl, rfl⟩
        go_wp2_with fail
        refine (d _).mono ?_
        rintro e w1 ⟨rfl, rfl⟩
        go_wp2
        go_ret2
        exact ⟨by rw [E.out]; rfl, rfl⟩
  | true =>
    rw [if_neg (fun h => by rw [h1] at h; exact absurd h.1 (by decide))] at E
    have hop := has1_op h1
    rw [if_neg (by omega)] at E
    rw [h1] at c
    clear h1 d
    rcases hop with rfl | rfl
    all_goals
      go_enter Tryd.func67, Tryd.ntmps67
      go_wp2_with fail
      refine (c _).mono ?_
      rintro e w1 ⟨rfl, rfl⟩
      go_wp2
      go_ret2
      exact ⟨by rw [E.out]; rfl, rfl⟩
end Go.Proofs.YtlckedionmgjjaaDoor.Four
