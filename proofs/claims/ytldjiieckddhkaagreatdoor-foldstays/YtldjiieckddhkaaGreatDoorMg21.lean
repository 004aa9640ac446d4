/- The contracts of num.One and num.Result: their ways. | The contract of the document's Has: which operations there are. | The contracts of the document's Two, One and Result. -/
import Derived.Test.YtldjiieckddhkaaGreatDoorN4TwoW
import Derived.Test.YtldjiieckddhkaaGreatDoorMg18
import Derived.Test.YtldjiieckddhkaaGreatDoorMg19
namespace Go.Proofs.YtldjiieckddhkaaGreatDoor.Four
open Go.RowKit
set_option maxRecDepth 100000 in
set_option maxHeartbeats 1600000 in
theorem one_no (op t a : Int) (w : World) (cf : Calls Tryz.prog 33 #[.int .i64 op, .int .i64 t] w fun e w' => e = .returned (.tuple #[.agg noRow, .bool false]) ∧ Below w.heap.size w w') :
    Calls Tryz.prog 129 #[.int .i64 op, .int .i64 t, .int .i64 a] w fun e w' => e = .returned (.tuple #[.int .i64 0, .int .i64 40]) ∧ Below w.heap.size w w' := by
  unfold noRow at cf
  have ho := cells_one 0 false false .nilFunc .nilFunc rfl rfl
  go_enter Tryz.func129, Tryz.ntmps129
  go_wp2_with fail
  refine cf.mono ?_
  rintro e w1 ⟨rfl, hb1⟩
  have HB := hide hb1
  clear hb1 cf
  go_wp2_with ((with_reducible refine at_store (ty := 63) ?_); go_must (refine wpList_store_rowTo rfl 63 _ _ rfl rfl _ #[.int .u8 0, .bool false, .bool false, .nilFunc, .nilFunc] rfl rfl 63 noRow (heap_alloc_new _ _) size63 rfl ho ?_; rw [World.setRow_alloc_new]))
  go_ret2
  exact ⟨rfl, HB.out.alloc HB.out.size _⟩
set_option maxRecDepth 100000 in
set_option maxHeartbeats 1600000 in
theorem one_nil (op t a S : Int) (C D : Bool) (n : Nat) (w : World) (cf : Calls Tryz.prog 33 #[.int .i64 op, .int .i64 t] w fun e w' => e = .returned (.tuple #[.agg #[.int .u8 S, .bool C, .bool D, .func (.func n) #[] #[], .nilFunc], .bool true]) ∧ Below w.heap.size w w') :
    Calls Tryz.prog 129 #[.int .i64 op, .int .i64 t, .int .i64 a] w fun e w' => e = .returned (.tuple #[.int .i64 0, .int .i64 40]) ∧ Below w.heap.size w w' := by
  have hz := z44
  have ho := cells_one S C D (.func (.func n) #[] #[]) .nilFunc rfl rfl
  go_enter Tryz.func129, Tryz.ntmps129
  go_wp2_with fail
  refine cf.mono ?_
  rintro e w1 ⟨rfl, hb1⟩
  have HB := hide hb1
  clear hb1 cf
  go_wp2_with ((with_reducible refine at_store (ty := 63) ?_); go_must (refine wpList_store_rowTo rfl 63 _ _ rfl rfl _ #[.int .u8 S, .bool C, .bool D, .func (.func n) #[] #[], .nilFunc] rfl rfl 63 noRow (heap_alloc_new _ _) size63 rfl ho ?_; rw [World.setRow_alloc_new]))
  go_ret2
  exact ⟨rfl, HB.out.alloc HB.out.size _⟩
set_option maxRecDepth 100000 in
set_option maxHeartbeats 1600000 in
theorem one_range (op t a S : Int) (C D : Bool) (n : Nat) (w : World) (hg : Glo w) (ha : fitB t a = false)
    (cf : Calls Tryz.prog 33 #[.int .i64 op, .int .i64 t] w fun e w' => e = .returned (.tuple #[.agg #[.int .u8 S, .bool C, .bool D, .nilFunc, .func (.func n) #[] #[]], .bool true]) ∧ Below w.heap.size w w') :
    Calls Tryz.prog 129 #[.int .i64 op, .int .i64 t, .int .i64 a] w fun e w' => e = .returned (.tuple #[.int .i64 0, .int .i64 1]) ∧ Below w.heap.size w w' := by
  have hq := q44 n
  have ho := cells_one S C D .nilFunc (.func (.func n) #[] #[]) rfl rfl
  have HG := hide hg
  have H0 := hide hg.lt
  have fa := fun W hg => fits_any t a W hg
  rw [ha] at fa
  clear hg ha
  go_enter Tryz.func129, Tryz.ntmps129
  go_wp2_with fail
  refine cf.mono ?_
  rintro e w1 ⟨rfl, hb1⟩
  have HB := hide hb1
  clear hb1 cf
  go_wp2_with ((with_reducible refine at_store (ty := 63) ?_); go_must (refine wpList_store_rowTo rfl 63 _ _ rfl rfl _ #[.int .u8 S, .bool C, .bool D, .nilFunc, .func (.func n) #[] #[]] rfl rfl 63 noRow (heap_alloc_new _ _) size63 rfl ho ?_; rw [World.setRow_alloc_new]))
  refine (fa _ (HG.out.below (HB.out.alloc HB.out.size _) H0.out)).mono ?_
  rintro e w2 ⟨rfl, rfl⟩
  go_wp2
  go_ret2
  exact ⟨rfl, HB.out.alloc HB.out.size _⟩
set_option maxRecDepth 100000 in
set_option maxHeartbeats 1600000 in
theorem one_core (op t a S r : Int) (C D : Bool) (n : Nat) (hn : ∀ args W, (callFunc n args).run Tryz.prog W = .ok (.enter n args) W) (w : World) (hg : Glo w) (ha : fitB t a = true)
    (c2 : ∀ W, Calls Tryz.prog n #[.int .i64 a] W fun e w' => e = .returned (.int .i64 r) ∧ w' = W)
    (cf : Calls Tryz.prog 33 #[.int .i64 op, .int .i64 t] w fun e w' => e = .returned (.tuple #[.agg #[.int .u8 S, .bool C, .bool D, .nilFunc, .func (.func n) #[] #[]], .bool true]) ∧ Below w.heap.size w w') :
    Calls Tryz.prog 129 #[.int .i64 op, .int .i64 t, .int .i64 a] w fun e w' => e = .returned (.tuple #[.int .i64 (wrN (if C then 1 else t) r), .int .i64 0]) ∧ Below w.heap.size w w' := by
  have hq := q44 n
  have ho := cells_one S C D .nilFunc (.func (.func n) #[] #[]) rfl rfl
  have HG := hide hg
  have H0 := hide hg.lt
  have fa := fun W hg => fits_any t a W hg
  have d3 := wrapped_any (if C then 1 else t) r
  have c3 := result_any S t C D .nilFunc (.func (.func n) #[] #[])
  generalize (if C then 1 else t : Int) = T at *
  rw [ha] at fa
  clear hg ha
  go_enter Tryz.func129, Tryz.ntmps129
  go_wp2_with fail
  refine cf.mono ?_
  rintro e w1 ⟨rfl, hb1⟩
  have HB := hide hb1
  clear hb1 cf
  go_wp2_with ((with_reducible refine at_store (ty := 63) ?_); go_must (refine wpList_store_rowTo rfl 63 _ _ rfl rfl _ #[.int .u8 S, .bool C, .bool D, .nilFunc, .func (.func n) #[] #[]] rfl rfl 63 noRow (heap_alloc_new _ _) size63 rfl ho ?_; rw [World.setRow_alloc_new]))
  refine (fa _ (HG.out.below (HB.out.alloc HB.out.size _) H0.out)).mono ?_
  rintro e w2 ⟨rfl, rfl⟩
  go_wp2_with fail
  have N0 := row_new (S := S) (C := C) (D := D) (F := .nilFunc) (G := .func (.func n) #[] #[]) HB.out
  have C29 := hide (fun W (h : W.cell? ⟨w1.heap.size, 0, none⟩ = some (.int .u8 S) ∧ W.cell? ⟨w1.heap.size, 1, none⟩ = some (.bool C) ∧ W.cell? ⟨w1.heap.size, 2, none⟩ = some (.bool D) ∧ W.cell? ⟨w1.heap.size, 3, none⟩ = some .nilFunc ∧ W.cell? ⟨w1.heap.size, 4, none⟩ = some (.func (.func n) #[] #[]) ∧ Below w.heap.size w W) => (c3 W).mono fun e w' (hh : e = .returned (.int .i64 T) ∧ Below W.heap.size W w') => (⟨hh.1, row_keeps hh.2 h⟩ : e = .returned (.int .i64 T) ∧ w'.cell? ⟨w1.heap.size, 0, none⟩ = some (.int .u8 S) ∧ w'.cell? ⟨w1.heap.size, 1, none⟩ = some (.bool C) ∧ w'.cell? ⟨w1.heap.size, 2, none⟩ = some (.bool D) ∧ w'.cell? ⟨w1.heap.size, 3, none⟩ = some .nilFunc ∧ w'.cell? ⟨w1.heap.size, 4, none⟩ = some (.func (.func n) #[] #[]) ∧ Below w.heap.size w w'))
  have C2 := hide (fun W (h : W.cell? ⟨w1.heap.size, 0, none⟩ = some (.int .u8 S) ∧ W.cell? ⟨w1.heap.size, 1, none⟩ = some (.bool C) ∧ W.cell? ⟨w1.heap.size, 2, none⟩ = some (.bool D) ∧ W.cell? ⟨w1.heap.size, 3, none⟩ = some .nilFunc ∧ W.cell? ⟨w1.heap.size, 4, none⟩ = some (.func (.func n) #[] #[]) ∧ Below w.heap.size w W) => (c2 W).mono fun e w' (hh : e = .returned (.int .i64 r) ∧ w' = W) => (⟨hh.1, by rw [hh.2]; exact h⟩ : e = .returned (.int .i64 r) ∧ w'.cell? ⟨w1.heap.size, 0, none⟩ = some (.int .u8 S) ∧ w'.cell? ⟨w1.heap.size, 1, none⟩ = some (.bool C) ∧ w'.cell? ⟨w1.heap.size, 2, none⟩ = some (.bool D) ∧ w'.cell? ⟨w1.heap.size, 3, none⟩ = some .nilFunc ∧ w'.cell? ⟨w1.heap.size, 4, none⟩ = some (.func (.func n) #[] #[]) ∧ Below w.heap.size w w'))
  have C28 := hide (fun W (h : W.cell? ⟨w1.heap.size, 0, none⟩ = some (.int .u8 S) ∧ W.cell? ⟨w1.heap.size, 1, none⟩ = some (.bool C) ∧ W.cell? ⟨w1.heap.size, 2, none⟩ = some (.bool D) ∧ W.cell? ⟨w1.heap.size, 3, none⟩ = some .nilFunc ∧ W.cell? ⟨w1.heap.size, 4, none⟩ = some (.func (.func n) #[] #[]) ∧ Below w.heap.size w W) => (d3 W).mono fun e w' (hh : e = .returned (.int .i64 (wrN T r)) ∧ w' = W) => (⟨hh.1, by rw [hh.2]; exact h⟩ : e = .returned (.int .i64 (wrN T r)) ∧ w'.cell? ⟨w1.heap.size, 0, none⟩ = some (.int .u8 S) ∧ w'.cell? ⟨w1.heap.size, 1, none⟩ = some (.bool C) ∧ w'.cell? ⟨w1.heap.size, 2, none⟩ = some (.bool D) ∧ w'.cell? ⟨w1.heap.size, 3, none⟩ = some .nilFunc ∧ w'.cell? ⟨w1.heap.size, 4, none⟩ = some (.func (.func n) #[] #[]) ∧ Below w.heap.size w w'))
  clear c3 c2 d3 HG H0 HB fa hq ho
  generalize w1.heap.size = g at *
  generalize (w1.alloc _) = W0 at *
  go_region_held3 (fun W => W.cell? ⟨g, 0, none⟩ = some (.int .u8 S) ∧ W.cell? ⟨g, 1, none⟩ = some (.bool C) ∧ W.cell? ⟨g, 2, none⟩ = some (.bool D) ∧ W.cell? ⟨g, 3, none⟩ = some .nilFunc ∧ W.cell? ⟨g, 4, none⟩ = some (.func (.func n) #[] #[]) ∧ Below w.heap.size w W) (first | assumption | exact row_drew N0) (first | (go_at_call 35; refine (C29.out _ ?_).mono ?_; assumption; rintro e w2 ⟨rfl, hrow⟩) | (go_at_call 34; refine (C28.out _ ?_).mono ?_; assumption; rintro e w2 ⟨rfl, hrow⟩) | (refine (C2.out _ ?_).mono ?_; assumption; rintro e w2 ⟨rfl, hrow⟩))
  go_wp2_with fail
  go_ret2
  exact ⟨rfl, hrow.2.2.2.2.2⟩
set_option maxRecDepth 100000 in
set_option maxHeartbeats 1600000 in
theorem res_no (op t : Int) (w : World) (cf : Calls Tryz.prog 33 #[.int .i64 op, .int .i64 t] w fun e w' => e = .returned (.tuple #[.agg noRow, .bool false]) ∧ Below w.heap.size w w') :
    Calls Tryz.prog 92 #[.int .i64 op, .int .i64 t] w fun e w' => e = .returned (.tuple #[.int .i64 0, .int .i64 40]) ∧ Below w.heap.size w w' := by
  unfold noRow at cf
  have ho := cells_one 0 false false .nilFunc .nilFunc rfl rfl
  go_enter Tryz.func92, Tryz.ntmps92
  go_wp2_with fail
  refine cf.mono ?_
  rintro e w1 ⟨rfl, hb1⟩
  have HB := hide hb1
  clear hb1 cf
  go_wp2_with ((with_reducible refine at_store (ty := 63) ?_); go_must (refine wpList_store_rowTo rfl 63 _ _ rfl rfl _ #[.int .u8 0, .bool false, .bool false, .nilFunc, .nilFunc] rfl rfl 63 noRow (heap_alloc_new _ _) size63 rfl ho ?_; rw [World.setRow_alloc_new]))
  go_ret2
  exact ⟨rfl, HB.out.alloc HB.out.size _⟩
set_option maxRecDepth 100000 in
set_option maxHeartbeats 1600000 in
theorem res_ok (op t S : Int) (C D : Bool) (F G : Value) (h1 : F.oneCell' = true) (h2 : G.oneCell' = true) (w : World) (cf : Calls Tryz.prog 33 #[.int .i64 op, .int .i64 t] w fun e w' => e = .returned (.tuple #[.agg #[.int .u8 S, .bool C, .bool D, F, G], .bool true]) ∧ Below w.heap.size w w') :
    Calls Tryz.prog 92 #[.int .i64 op, .int .i64 t] w fun e w' => e = .returned (.tuple #[.int .i64 (if C then 1 else t), .int .i64 0]) ∧ Below w.heap.size w w' := by
  have ho := cells_one S C D F G h1 h2
  have c3 := result_any S t C D F G
  generalize (if C then 1 else t : Int) = T at *
  clear h1 h2
  go_enter Tryz.func92, Tryz.ntmps92
  go_wp2_with fail
  refine cf.mono ?_
  rintro e w1 ⟨rfl, hb1⟩
  have HB := hide hb1
  clear hb1 cf
  go_wp2_with ((with_reducible refine at_store (ty := 63) ?_); go_must (refine wpList_store_rowTo rfl 63 _ _ rfl rfl _ #[.int .u8 S, .bool C, .bool D, F, G] rfl rfl 63 noRow (heap_alloc_new _ _) size63 rfl ho ?_; rw [World.setRow_alloc_new]))
  refine (c3 _).mono ?_
  rintro e w2 ⟨rfl, hb2⟩
  have HB2 := hide (show Below w.heap.size w w2 from (HB.out.alloc HB.out.size _).trans (hb2.mono (by have := HB.out.size; simp; omega)))
  clear hb2 HB c3 ho
  go_wp2
  go_ret2
  exact ⟨rfl, HB2.out⟩
end Go.Proofs.YtldjiieckddhkaaGreatDoor.Four
namespace Go.Proofs.YtldjiieckddhkaaGreatDoor.Four
open Go.RowKit
theorem ne_dec' (a b : Int) : (a != b) = decide (a ≠ b) := by
  rw [Bool.eq_iff_iff]; simp
set_option maxRecDepth 100000 in
theorem has1_any (op t : Int) (w : World) : Calls Tryz.prog 131 #[.int .i64 op, .int .i64 t, .int .i64 1] w fun e w' => e = .returned (.bool (has1 op t)) ∧ w' = w := by
  have c := type_any t
  cases hT : tyB t with
  | false =>
    have E := hide (show has1 op t = false by unfold has1; rw [hT]; rfl)
    rw [hT] at c
    clear hT
    go_enter Tryz.func131, Tryz.ntmps131
    go_wp2_with fail
    refine (c _).mono ?_
    rintro e w1 ⟨rfl, rfl⟩
    go_wp2
    go_ret
    exact ⟨ret_bool (by rw [E.out]), rfl⟩
  | true =>
    have E := hide (show has1 op t = ((decide (op = 15) && decide (t ≠ 1)) || (decide (op = 16) && decide (t ≠ 4))) by unfold has1; rw [hT]; rfl)
    have ht : t = 1 ∨ t = 2 ∨ t = 3 ∨ t = 4 := by
      unfold tyB at hT
      rw [Bool.and_eq_true] at hT
      have h1 := of_decide_eq_true hT.1
      have h2 := of_decide_eq_true hT.2
      omega
    rw [hT] at c
    clear hT
    by_cases h15 : op = 15
    · subst h15
      rcases ht with rfl | rfl | rfl | rfl
      all_goals
        go_enter Tryz.func131, Tryz.ntmps131
        go_wp2_with fail
        refine (c _).mono ?_
        rintro e w1 ⟨rfl, rfl⟩
        go_wp2
        go_ret
        exact ⟨ret_bool (by rw [E.out]; rfl), rfl⟩
    · by_cases h16 : op = 16
      · subst h16
        rcases ht with rfl | rfl | rfl | rfl
        all_goals
          go_enter Tryz.func131, Tryz.ntmps131
          go_wp2_with fail
          refine (c _).mono ?_
          rintro e w1 ⟨rfl, rfl⟩
          go_wp2
          go_ret
          exact ⟨ret_bool (by rw [E.out]; rfl), rfl⟩
      · have E' := hide (show has1 op t = false by rw [E.out, decide_eq_false h15, decide_eq_false h16]; rfl)
        clear E
        rcases ht with rfl | rfl | rfl | rfl
        all_goals
          go_enter Tryz.func131, Tryz.ntmps131
          go_wp2_with fail
          refine (c _).mono ?_
          rintro e w1 ⟨rfl, rfl⟩
          go_wp2
          go_ret
          exact ⟨ret_bool (by rw [E'.out]), rfl⟩
set_option maxRecDepth 100000 in
set_option maxHeartbeats 1600000 in
theorem has2_any (op t : Int) (w : World) : Calls Tryz.prog 131 #[.int .i64 op, .int .i64 t, .int .i64 2] w fun e w' => e = .returned (.bool (has2 op t)) ∧ w' = w := by
  have c := type_any t
  cases hT : tyB t with
  | false =>
    have E := hide (show has2 op t = false by unfold has2; rw [hT]; rfl)
    rw [hT] at c
    clear hT
    go_enter Tryz.func131, Tryz.ntmps131
    go_wp2_with fail
    refine (c _).mono ?_
    rintro e w1 ⟨rfl, rfl⟩
    go_wp2
    go_ret
    exact ⟨ret_bool (by rw [E.out]), rfl⟩
  | true =>
    have ht : t = 1 ∨ t = 2 ∨ t = 3 ∨ t = 4 := by
      unfold tyB at hT
      rw [Bool.and_eq_true] at hT
      have h1 := of_decide_eq_true hT.1
      have h2 := of_decide_eq_true hT.2
      omega
    rw [hT] at c
    by_cases ho : 1 ≤ op ∧ op ≤ 14
    · have : op = 1 ∨ op = 2 ∨ op = 3 ∨ op = 4 ∨ op = 5 ∨ op = 6 ∨ op = 7 ∨ op = 8 ∨ op = 9 ∨ op = 10 ∨ op = 11 ∨ op = 12 ∨ op = 13 ∨ op = 14 := by omega
      clear ho hT
      rcases this with rfl | rfl | rfl | rfl | rfl | rfl | rfl | rfl | rfl | rfl | rfl | rfl | rfl | rfl <;> rcases ht with rfl | rfl | rfl | rfl
      all_goals
        go_enter Tryz.func131, Tryz.ntmps131
        go_wp2_with fail
        refine (c _).mono ?_
        rintro e w1 ⟨rfl, rfl⟩
        go_wp2
        go_ret
        exact ⟨ret_bool (by decide), rfl⟩
    · have E := hide (show has2 op t = false by
        unfold has2
        rw [hT, if_neg (by omega), if_neg (by omega), if_neg (by omega), decide_eq_false (by omega)]; rfl)
      have n1 : ¬ op = 1 := by omega
      have n2 : ¬ op = 2 := by omega
      have n3 : ¬ op = 3 := by omega
      have n4 : ¬ op = 4 := by omega
      have n5 : ¬ op = 5 := by omega
      have n6 : ¬ op = 6 := by omega
      have n7 : ¬ op = 7 := by omega
      have n8 : ¬ op = 8 := by omega
      have n9 : ¬ op = 9 := by omega
      have n10 : ¬ op = 10 := by omega
      have n11 : ¬ op = 11 := by omega
      have n12 : ¬ op = 12 := by omega
      have n13 : ¬ op = 13 := by omega
      have n14 : ¬ op = 14 := by omega
      clear ho hT
      rcases ht with rfl | rfl | rfl | rfl
      all_goals
        go_enter Tryz.func131, Tryz.ntmps131
        go_wp2_with fail
        refine (c _).mono ?_
        rintro e w1 ⟨rfl, rfl⟩
        go_wp2
        go_ret
        exact ⟨ret_bool (by rw [E.out]; first | rfl | simp [*]), rfl⟩
end Go.Proofs.YtldjiieckddhkaaGreatDoor.Four
namespace Go.Proofs.YtldjiieckddhkaaGreatDoor.Four
open Go.RowKit
theorem has2_op {op t : Int} (h : has2 op t = true) : 1 ≤ op ∧ op ≤ 14 := by
  unfold has2 at h
  rw [Bool.and_eq_true] at h
  have h2 := h.2
  by_cases hc : 1 ≤ op ∧ op ≤ 14
  · exact hc
  · rw [if_neg (by omega), if_neg (by omega), if_neg (by omega)] at h2
    have := of_decide_eq_true h2; omega
theorem has1_op {op t : Int} (h : has1 op t = true) : op = 15 ∨ op = 16 := by
  unfold has1 at h
  rw [Bool.and_eq_true, Bool.or_eq_true, Bool.and_eq_true, Bool.and_eq_true] at h
  rcases h.2 with h | h
  · exact .inl (of_decide_eq_true h.1)
  · exact .inr (of_decide_eq_true h.1)
set_option maxRecDepth 100000 in
set_option maxHeartbeats 1600000 in
theorem twoR_any (op t a b : Int) (w : World) : Calls Tryz.prog 97 #[.int .i64 op, .int .i64 t, .int .i64 a, .int .i64 b] w fun e w' => e = .returned (.tuple #[.int .i64 (twoN op t a b).1, .int .i64 (twoN op t a b).2]) ∧ w' = w := by
  have c := has2_any op t
  have fa := fitsR_any t a
  have fb := fitsR_any t b
  have E := hide (show twoN op t a b = if has2 op t = false then (0, 40) else if fitB t a = false ∨ fitB t b = false then (0, 1) else if (op = 4 ∨ op = 5) ∧ b = 0 then (0, 41) else if 9 ≤ op then (pureN op a b, 0) else (wrN t (pureN op a b), 0) from rfl)
  cases ho : has2 op t with
  | false =>
    rw [if_pos ho] at E
    rw [ho] at c
    clear ho fa fb
    go_enter Tryz.func97, Tryz.ntmps97
    go_wp2_with fail
    refine (c _).mono ?_
    rintro e w1 ⟨rfl, rfl⟩
    go_wp2
    go_ret2
    exact ⟨by rw [E.out]; rfl, rfl⟩
  | true =>
    rw [if_neg (by rw [ho]; decide)] at E
    rw [ho] at c
    have hop := has2_op ho
    clear ho
    cases ha : fitB t a with
    | false =>
      rw [if_pos (.inl ha)] at E
      rw [ha] at fa
      clear ha fb hop
      go_enter Tryz.func97, Tryz.ntmps97
      go_wp2_with fail
      refine (c _).mono ?_
      rintro e w1 ⟨rfl, rfl⟩
      go_wp2_with fail
      refine (fa _).mono ?_
      rintro e w1 ⟨rfl, rfl⟩
      go_wp2
      go_ret2
      exact ⟨by rw [E.out]; rfl, rfl⟩
    | true =>
      rw [ha] at fa
      cases hb : fitB t b with
      | false =>
        rw [if_pos (.inr hb)] at E
        rw [hb] at fb
        clear ha hb hop
        go_enter Tryz.func97, Tryz.ntmps97
        go_wp2_with fail
        refine (c _).mono ?_
        rintro e w1 ⟨rfl, rfl⟩
        go_wp2_with fail
        refine (fa _).mono ?_
        rintro e w1 ⟨rfl, rfl⟩
        go_wp2_with fail
        refine (fb _).mono ?_
        rintro e w1 ⟨rfl, rfl⟩
        go_wp2
        go_ret2
        exact ⟨by rw [E.out]; rfl, rfl⟩
      | true =>
        rw [hb] at fb
        rw [if_neg (by rw [ha, hb]; decide)] at E
        have ra := hide (R_of_fit ha)
        have rb := hide (R_of_fit hb)
        clear ha hb
        by_cases hz : (op = 4 ∨ op = 5) ∧ b = 0
        · rw [if_pos hz] at E
          obtain ⟨h45, rfl⟩ := hz
          clear hop ra rb
          rcases h45 with rfl | rfl
          all_goals
            go_enter Tryz.func97, Tryz.ntmps97
            go_wp2_with fail
            refine (c _).mono ?_
            rintro e w1 ⟨rfl, rfl⟩
            go_wp2_with fail
            refine (fa _).mono ?_
            rintro e w1 ⟨rfl, rfl⟩
            go_wp2_with fail
            refine (fb _).mono ?_
            rintro e w1 ⟨rfl, rfl⟩
            go_wp2
            go_ret2
            exact ⟨by rw [E.out]; rfl, rfl⟩
        · rw [if_neg hz] at E
          have p := pure_any op a b hop ra.out rb.out (fun h hb => hz ⟨h, hb⟩)
          have q := wrappedR_any t (pureN op a b)
          have hcase : (op = 4 ∧ ¬ b = 0) ∨ (op = 5 ∧ ¬ b = 0) ∨ (¬ op = 4 ∧ ¬ op = 5) := by omega
          generalize pureN op a b = n at *
          clear hz hop ra rb
          by_cases h9 : 9 ≤ op
          · rw [if_pos h9] at E
            clear q
            have n4 : ¬ op = 4 := by omega
            have n5 : ¬ op = 5 := by omega
            clear hcase
            go_enter Tryz.func97, Tryz.ntmps97
            go_wp2_with fail
            refine (c _).mono ?_
            rintro e w1 ⟨rfl, rfl⟩
            go_wp2_with fail
            refine (fa _).mono ?_
            rintro e w1 ⟨rfl, rfl⟩
            go_wp2_with fail
            refine (fb _).mono ?_
            rintro e w1 ⟨rfl, rfl⟩
            go_wp2_with fail
            refine (p _).mono ?_
            rintro e w1 ⟨rfl, rfl⟩
            go_wp2
            go_ret2
            exact ⟨by rw [E.out]; rfl, rfl⟩
          · rw [if_neg h9] at E
            rcases hcase with ⟨rfl, n5⟩ | ⟨rfl, n5⟩ | ⟨n4, n5⟩
            all_goals
              go_enter Tryz.func97, Tryz.ntmps97
              go_wp2_with fail
              refine (c _).mono ?_
              rintro e w1 ⟨rfl, rfl⟩
              go_wp2_with fail
              refine (fa _).mono ?_
              rintro e w1 ⟨rfl, rfl⟩
              go_wp2_with fail
              refine (fb _).mono ?_
              rintro e w1 ⟨rfl, rfl⟩
              go_wp2_with fail
              refine (p _).mono ?_
              rintro e w1 ⟨rfl, rfl⟩
              go_wp2_with fail
              refine (q _).mono ?_
              rintro e w1 ⟨rfl, rfl⟩
              go_wp2
              go_ret2
              exact ⟨by rw [E.out]; rfl, rfl⟩
set_option maxRecDepth 100000 in
set_option maxHeartbeats 1600000 in
theorem oneR_any (op t a : Int) (w : World) : Calls Tryz.prog 96 #[.int .i64 op, .int .i64 t, .int .i64 a] w fun e w' => e = .returned (.tuple #[.int .i64 (oneN op t a).1, .int .i64 (oneN op t a).2]) ∧ w' = w := by
  have c := has1_any op t
  have fa := fitsR_any t a
  have E := hide (show oneN op t a = if has1 op t = false then (0, 40) else if fitB t a = false then (0, 1) else if op = 15 then (wrN t (-a), 0) else if t = 1 then (1 - a, 0) else (wrN t (-1 - a), 0) from rfl)
  cases ho : has1 op t with
  | false =>
    rw [if_pos ho] at E
    rw [ho] at c
    clear ho fa
    go_enter Tryz.func96, Tryz.ntmps96
    go_wp2_with fail
    refine (c _).mono ?_
    rintro e w1 ⟨rfl, rfl⟩
    go_wp2
    go_ret2
    exact ⟨by rw [E.out]; rfl, rfl⟩
  | true =>
    rw [if_neg (by rw [ho]; decide)] at E
    rw [ho] at c
    clear ho
    cases ha : fitB t a with
    | false =>
      rw [if_pos ha] at E
      rw [ha] at fa
      clear ha
      go_enter Tryz.func96, Tryz.ntmps96
      go_wp2_with fail
      refine (c _).mono ?_
      rintro e w1 ⟨rfl, rfl⟩
      go_wp2_with fail
      refine (fa _).mono ?_
      rintro e w1 ⟨rfl, rfl⟩
      go_wp2
      go_ret2
      exact ⟨by rw [E.out]; rfl, rfl⟩
    | true =>
      rw [ha] at fa
      rw [if_neg (by rw [ha]; decide)] at E
      have ra := R_of_fit ha
      have e1 : wrap64 (-a) = -a := w_neg ra
      have e2 : wrap64 (-1 - a) = -1 - a := w_sub (a := -1) ⟨by decide, by decide⟩ ra
      have e3 : wrap64 (1 - a) = 1 - a := w_sub (a := 1) ⟨by decide, by decide⟩ ra
      have q := wrappedR_any t
      clear ha ra
      by_cases h15 : op = 15
      · subst h15
        rw [if_pos rfl] at E
        clear e2 e3
        go_enter Tryz.func96, Tryz.ntmps96
        go_wp2_with fail
        refine (c _).mono ?_
        rintro e w1 ⟨rfl, rfl⟩
        go_wp2_with fail
        refine (fa _).mono ?_
        rintro e w1 ⟨rfl, rfl⟩
        go_wp2_with fail
        refine (q _ _).mono ?_
        rintro e w1 ⟨rfl, rfl⟩
        go_wp2
        go_ret2
        exact ⟨by rw [E.out]; first | rfl | rw [e1]; rfl, rfl⟩
      · rw [if_neg h15] at E
        by_cases h1 : t = 1
        · subst h1
          rw [if_pos rfl] at E
          clear e1 e2
          go_enter Tryz.func96, Tryz.ntmps96
          go_wp2_with fail
          refine (c _).mono ?_
          rintro e w1 ⟨rfl, rfl⟩
          go_wp2_with fail
          refine (fa _).mono ?_
          rintro e w1 ⟨rfl, rfl⟩
          go_wp2
          go_ret2
          exact ⟨by rw [E.out]; first | rfl | rw [e3]; rfl, rfl⟩
        · rw [if_neg h1] at E
          clear e1 e3
          go_enter Tryz.func96, Tryz.ntmps96
          go_wp2_with fail
          refine (c _).mono ?_
          rintro e w1 ⟨rfl, rfl⟩
          go_wp2_with fail
          refine (fa _).mono ?_
          rintro e w1 ⟨rfl, rfl⟩
          go_wp2_with fail
          refine (q _ _).mono ?_
          rintro e w1 ⟨rfl, rfl⟩
          go_wp2
          go_ret2
          exact ⟨by rw [E.out]; first | rfl | rw [e2]; rfl, rfl⟩
set_option maxRecDepth 100000 in
set_option maxHeartbeats 1600000 in
theorem resR_any (op t : Int) (w : World) : Calls Tryz.prog 95 #[.int .i64 op, .int .i64 t] w fun e w' => e = .returned (.tuple #[.int .i64 (resN op t).1, .int .i64 (resN op t).2]) ∧ w' = w := by
  have c := has1_any op t
  have d := has2_any op t
  have E := hide (show resN op t = if has1 op t = false ∧ has2 op t = false then (0, 40) else if 9 ≤ op ∧ op ≤ 14 then (1, 0) else (t, 0) from rfl)
  cases h1 : has1 op t with
  | false =>
    rw [h1] at c
    cases h2 : has2 op t with
    | false =>
      rw [if_pos ⟨h1, h2⟩] at E
      rw [h2] at d
      clear h1 h2
      go_enter Tryz.func95, Tryz.ntmps95
      go_wp2_with fail
      refine (c _).mono ?_
      rintro e w1 ⟨rfl, rfl⟩
      go_wp2_with fail
      refine (d _).mono ?_
      rintro e w1 ⟨rfl, rfl⟩
      go_wp2
      go_ret2
      exact ⟨by rw [E.out]; rfl, rfl⟩
    | true =>
      rw [if_neg (fun h => by rw [h2] at h; exact absurd h.2 (by decide))] at E
      rw [h2] at d
      have hop := has2_op h2
      clear h1 h2
      by_cases h9 : 9 ≤ op
      · rw [if_pos ⟨h9, hop.2⟩] at E
        have h14 : op ≤ 14 := hop.2
        clear hop
        go_enter Tryz.func95, Tryz.ntmps95
        go_wp2_with fail
        refine (c _).mono ?_
        rintro e w1 ⟨rfl, rfl⟩
        go_wp2_with fail
        refine (d _).mono ?_
        rintro e w1 ⟨rfl, rfl⟩
        go_wp2
        go_ret2
        exact ⟨by rw [E.out]; rfl, rfl⟩
      · rw [if_neg (fun h => h9 h.1)] at E
        clear hop
        go_enter Tryz.func95, Tryz.ntmps95
        go_wp2_with fail
        refine (c _).mono ?_
        rintro e w1 ⟨rfl, rfl⟩
        go_wp2_with fail
        refine (d _).mono ?_
        rintro e w1 ⟨rfl, rfl⟩
        go_wp2
        go_ret2
        exact ⟨by rw [E.out]; rfl, rfl⟩
  | true =>
    rw [if_neg (fun h => by rw [h1] at h; exact absurd h.1 (by decide))] at E
    have hop := has1_op h1
    rw [if_neg (by omega)] at E
    rw [h1] at c
    clear h1 d
    rcases hop with rfl | rfl
    all_goals
      go_enter Tryz.func95, Tryz.ntmps95
      go_wp2_with fail
      refine (c _).mono ?_
      rintro e w1 ⟨rfl, rfl⟩
      go_wp2
      go_ret2
      exact ⟨by rw [E.out]; rfl, rfl⟩
end Go.Proofs.YtldjiieckddhkaaGreatDoor.Four
