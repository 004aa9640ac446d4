/- The contracts of num.One and num.Result: their ways. | The contract of the document's Has: which operations there are. | The contracts of the document's Two, One and Result. -/
import Derived.Test.YtmbgcpmapaedcaaDoorN4TwoW
import Derived.Test.YtmbgcpmapaedcaaDoorMg3
import Derived.Test.YtmbgcpmapaedcaaDoorMg4
namespace Go.Proofs.YtmbgcpmapaedcaaDoor.Four
open Go.RowKit
set_option maxRecDepth 100000 in
set_option maxHeartbeats 1600000 in
theorem one_no (op t a : Int) (w : World) (cf : Calls Tryd.prog 60 #[.int .i64 op, .int .i64 t] w fun e w' => e = .returned (.tuple #[.agg noRow, .bool false]) ∧ Below w.heap.size w w') :
    Calls Tryd.prog 47 #[.int .i64 op, .int .i64 t, .int .i64 a] w fun e w' => e = .returned (.tuple #[.int .i64 0, .int .i64 40]) ∧ Below w.heap.size w w' := by
  unfold noRow at cf
  have ho := cells_one 0 false false .nilFunc .nilFunc rfl rfl
  go_enter Tryd.func47, Tryd.ntmps47
  go_wp2_with fail
  refine cf.mono ?_
  rintro e w1 ⟨rfl, hb1⟩
  have HB := hide hb1
  clear hb1 cf
  go_wp2_with ((with_reducible refine at_store (ty := 97) ?_); go_must (refine wpList_store_rowTo rfl 97 _ _ rfl rfl _ #[.int .u8 0, .bool false, .bool false, .nilFunc, .nilFunc] rfl rfl 97 noRow (heap_alloc_new _ _) size97 rfl ho ?_; rw [World.setRow_alloc_new]))
  go_ret2
  exact ⟨rfl, HB.out.alloc HB.out.size _⟩
set_option maxRecDepth 100000 in
set_option maxHeartbeats 1600000 in
theorem one_nil (op t a S : Int) (C D : Bool) (n : Nat) (w : World) (cf : Calls Tryd.prog 60 #[.int .i64 op, .int .i64 t] w fun e w' => e = .returned (.tuple #[.agg #[.int .u8 S, .bool C, .bool D, .func (.func n) #[] #[], .nilFunc], .bool true]) ∧ Below w.heap.size w w') :
    Calls Tryd.prog 47 #[.int .i64 op, .int .i64 t, .int .i64 a] w fun e w' => e = .returned (.tuple #[.int .i64 0, .int .i64 40]) ∧ Below w.heap.size w w' := by
  have hz := z44
  have ho := cells_one S C D (.func (.func n) #[] #[]) .nilFunc rfl rfl
  go_enter Tryd.func47, Tryd.ntmps47
  go_wp2_with fail
  refine cf.mono ?_
  rintro e w1 ⟨rfl, hb1⟩
  have HB := hide hb1
  clear hb1 cf
  go_wp2_with ((with_reducible refine at_store (ty := 97) ?_); go_must (refine wpList_store_rowTo rfl 97 _ _ rfl rfl _ #[.int .u8 S, .bool C, .bool D, .func (.func n) #[] #[], .nilFunc] rfl rfl 97 noRow (heap_alloc_new _ _) size97 rfl ho ?_; rw [World.setRow_alloc_new]))
  go_ret2
  exact ⟨rfl, HB.out.alloc HB.out.size _⟩
set_option maxRecDepth 100000 in
set_option maxHeartbeats 1600000 in
theorem one_range (op t a S : Int) (C D : Bool) (n : Nat) (w : World) (hg : Glo w) (ha : fitB t a = false)
    (cf : Calls Tryd.prog 60 #[.int .i64 op, .int .i64 t] w fun e w' => e = .returned (.tuple #[.agg #[.int .u8 S, .bool C, .bool D, .nilFunc, .func (.func n) #[] #[]], .bool true]) ∧ Below w.heap.size w w') :
    Calls Tryd.prog 47 #[.int .i64 op, .int .i64 t, .int .i64 a] w fun e w' => e = .returned (.tuple #[.int .i64 0, .int .i64 1]) ∧ Below w.heap.size w w' := by
  have hq := q44 n
  have ho := cells_one S C D .nilFunc (.func (.func n) #[] #[]) rfl rfl
  have HG := hide hg
  have H0 := hide hg.lt
  have fa := fun W hg => fits_any t a W hg
  rw [ha] at fa
  clear hg ha
  go_enter Tryd.func47, Tryd.ntmps47
  go_wp2_with fail
  refine cf.mono ?_
  rintro e w1 ⟨rfl, hb1⟩
  have HB := hide hb1
  clear hb1 cf
  go_wp2_with ((with_reducible refine at_store (ty := 97) ?_); go_must (refine wpList_store_rowTo rfl 97 _ _ rfl rfl _ #[.int .u8 S, .bool C, .bool D, .nilFunc, .func (.func n) #[] #[]] rfl rfl 97 noRow (heap_alloc_new _ _) size97 rfl ho ?_; rw [World.setRow_alloc_new]))
  refine (fa _ (HG.out.below (HB.out.alloc HB.out.size _) H0.out)).mono ?_
  rintro e w2 ⟨rfl, rfl⟩
  go_wp2
  go_ret2
  exact ⟨rfl, HB.out.alloc HB.out.size _⟩
set_option maxRecDepth 100000 in
set_option maxHeartbeats 1600000 in
theorem one_core (op t a S r : Int) (C D : Bool) (n : Nat) (hn : ∀ args W, (callFunc n args).run Tryd.prog W = .ok (.enter n args) W) (w : World) (hg : Glo w) (ha : fitB t a = true)
    (c2 : ∀ W, Calls Tryd.prog n #[.int .i64 a] W fun e w' => e = .returned (.int .i64 r) ∧ w' = W)
    (cf : Calls Tryd.prog 60 #[.int .i64 op, .int .i64 t] w fun e w' => e = .returned (.tuple #[.agg #[.int .u8 S, .bool C, .bool D, .nilFunc, .func (.func n) #[] #[]], .bool true]) ∧ Below w.heap.size w w') :
    Calls Tryd.prog 47 #[.int .i64 op, .int .i64 t, .int .i64 a] w fun e w' => e = .returned (.tuple #[.int .i64 (wrN (if C then 1 else t) r), .int .i64 0]) ∧ Below w.heap.size w w' := by
  have hq := q44 n
  have ho := cells_one S C D .nilFunc (.func (.func n) #[] #[]) rfl rfl
  have HG := hide hg
  have H0 := hide hg.lt
  have fa := fun W hg => fits_any t a W hg
  have d3 := wrapped_any (if C then 1 else t) r
  have c3 := result_any S t C D .nilFunc (.func (.func n) #[] #[])
  generalize (if C then 1 else t : Int) = T at *
  rw [ha] at fa
  clear hg ha
  go_enter Tryd.func47, Tryd.ntmps47
  go_wp2_with fail
  refine cf.mono ?_
  rintro e w1 ⟨rfl, hb1⟩
  have HB := hide hb1
  clear hb1 cf
  go_wp2_with ((with_reducible refine at_store (ty := 97) ?_); go_must (refine wpList_store_rowTo rfl 97 _ _ rfl rfl _ #[.int .u8 S, .bool C, .bool D, .nilFunc, .func (.func n) #[] #[]] rfl rfl 97 noRow (heap_alloc_new _ _) size97 rfl ho ?_; rw [World.setRow_alloc_new]))
  refine (fa _ (HG.out.below (HB.out.alloc HB.out.size _) H0.out)).mono ?_
  rintro e w2 ⟨rfl, rfl⟩
  go_wp2_with fail
  have N0 := row_new (S := S) (C := C) (D := D) (F := .nilFunc) (G := .func (.func n) #[] #[]) HB.out
  have C29 := hide (fun W (h : W.cell? ⟨w1.heap.size, 0, none⟩ = some (.int .u8 S) ∧ W.cell? ⟨w1.heap.size, 1, none⟩ = some (.bool C) ∧ W.cell? ⟨w1.heap.size, 2, none⟩ = some (.bool D) ∧ W.cell? ⟨w1.heap.size, 3, none⟩ = some .nilFunc ∧ W.cell? ⟨w1.heap.size, 4, none⟩ = some (.func (.func n) #[] #[]) ∧ Below w.heap.size w W) => (c3 W).mono fun e w' (hh : e = .returned (.int .i64 T) ∧ Below W.heap.size W w') => (⟨hh.1, row_keeps hh.2 h⟩ : e = .returned (.int .i64 T) ∧ w'.cell? ⟨w1.heap.size, 0, none⟩ = some (.int .u8 S) ∧ w'.cell? ⟨w1.heap.size, 1, none⟩ = some (.bool C) ∧ w'.cell? ⟨w1.heap.size, 2, none⟩ = some (.bool D) ∧ w'.cell? ⟨w1.heap.size, 3, none⟩ = some .nilFunc ∧ w'.cell? ⟨w1.heap.size, 4, none⟩ = some (.func (.func n) #[] #[]) ∧ Below w.heap.size w w'))
  have C2 := hide (fun W (h : W.cell? ⟨w1.heap.size, 0, none⟩ = some (.int .u8 S) ∧ W.cell? ⟨w1.heap.size, 1, none⟩ = some (.bool C) ∧ W.cell? ⟨w1.heap.size, 2, none⟩ = some (.bool D) ∧ W.cell? ⟨w1.heap.size, 3, none⟩ = some .nilFunc ∧ W.cell? ⟨w1.heap.size, 4, none⟩ = some (.func (.func n) #[] #[]) ∧ Below w.heap.size w W) => (c2 W).mono fun e w' (hh : e = .returned (.int .i64 r) ∧ w' = W) => (⟨hh.1, by rw [hh.2]; exact h⟩ : e = .returned (.int .i64 r) ∧ w'.cell? ⟨w1.heap.size, 0, none⟩ = some (.int .u8 S) ∧ w'.cell? ⟨w1.heap.size, 1, none⟩ = some (.bool C) ∧ w'.cell? ⟨w1.heap.size, 2, none⟩ = some (.bool D) ∧ w'.cell? ⟨w1.heap.size, 3, none⟩ = some .nilFunc ∧ w'.cell? ⟨w1.heap.size, 4, none⟩ = some (.func (.func n) #[] #[]) ∧ Below w.heap.size w w'))
  have C28 := hide (fun W (h : W.cell? ⟨w1.heap.size, 0, none⟩ = some (.int .u8 S) ∧ W.cell? ⟨w1.heap.size, 1, none⟩ = some (.bool C) ∧ W.cell? ⟨w1.heap.size, 2, none⟩ = some (.bool D) ∧ W.cell? ⟨w1.heap.size, 3, none⟩ = some .nilFunc ∧ W.cell? ⟨w1.heap.size, 4, none⟩ = some (.func (.func n) #[] #[]) ∧ Below w.heap.size w W) => (d3 W).mono fun e w' (hh : e = .returned (.int .i64 (wrN T r)) ∧ w' = W) => (⟨hh.1, by rw [hh.2]; exact h⟩ : e = .returned (.int .i64 (wrN T r)) ∧ w'.cell? ⟨w1.heap.size, 0, none⟩ = some (.int .u8 S) ∧ w'.cell? ⟨w1.heap.size, 1, none⟩ = some (.bool C) ∧ w'.cell? ⟨w1.heap.size, 2, none⟩ = some (.bool D) ∧ w'.cell? ⟨w1.heap.size, 3, none⟩ = some .nilFunc ∧ w'.cell? ⟨w1.heap.size, 4, none⟩ = some (.func (.func n) #[] #[]) ∧ Below w.heap.size w w'))
  clear c3 c2 d3 HG H0 HB fa hq ho
  generalize w1.heap.size = g at *
  generalize (w1.alloc _) = W0 at *
  go_region_held3 (fun W => W.cell? ⟨g, 0, none⟩ = some (.int .u8 S) ∧ W.cell? ⟨g, 1, none⟩ = some (.bool C) ∧ W.cell? ⟨g, 2, none⟩ = some (.bool D) ∧ W.cell? ⟨g, 3, none⟩ = some .nilFunc ∧ W.cell? ⟨g, 4, none⟩ = some (.func (.func n) #[] #[]) ∧ Below w.heap.size w W) (first | assumption | exact row_drew N0) (first | (go_at_call 62; refine (C29.out _ ?_).mono ?_; assumption; rintro e w2 ⟨rfl, hrow⟩) | (go_at_call 61; refine (C28.out _ ?_).mono ?_; assumption; rintro e w2 ⟨rfl, hrow⟩) | (refine (C2.out _ ?_).mono ?_; assumption; rintro e w2 ⟨rfl, hrow⟩))
  go_wp2_with fail
  go_ret2
  exact ⟨rfl, hrow.2.2.2.2.2⟩
end Go.Proofs.YtmbgcpmapaedcaaDoor.Four
namespace Go.Proofs.YtmbgcpmapaedcaaDoor.Four
open Go.RowKit
theorem ne_dec' (a b : Int) : (a != b) = decide (a ≠ b) := by
  rw [Bool.eq_iff_iff]; simp
end Go.Proofs.YtmbgcpmapaedcaaDoor.Four
namespace Go.Proofs.YtmbgcpmapaedcaaDoor.Four
open Go.RowKit
theorem has2_op {op t : Int} (h : has2 op t = true) : 1 ≤ op ∧ op ≤ 14 := by
  unfold has2 at h
  rw [Bool.and_eq_true] at h
  have h2 := h.2
  by_cases hc : 1 ≤ op ∧ op ≤ 14
  · exact hc
  · rw [if_neg (by omega), if_neg (by omega), if_neg (by omega)] at h2
    have := of_decide_eq_true h2; omega
theorem has1_op {op t : Int} (h : has1 op t = true) : op = 15 ∨ op = 16 := by
  unfold has1 at h
  rw [Bool.and_eq_true, Bool.or_eq_true, Bool.and_eq_true, Bool.and_eq_true] at h
  rcases h.2 with h | h
  · exact .inl (of_decide_eq_true h.1)
  · exact .inr (of_decide_eq_true h.1)
end Go.Proofs.YtmbgcpmapaedcaaDoor.Four
