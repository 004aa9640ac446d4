/- N4TwoW | N4OneW -/
import Derived.Test.YtldjiieckddhkaaGreatDoorMg9
import Derived.Deep.RegionHeld3
namespace Go.Proofs.YtldjiieckddhkaaGreatDoor.Four
open Go.RowKit
theorem row_keeps {w W W' : World} {g : Nat} {S : Int} {C D : Bool} {F G : Value} (hb : Below W.heap.size W W')
    (h : W.cell? ⟨g, 0, none⟩ = some (.int .u8 S) ∧ W.cell? ⟨g, 1, none⟩ = some (.bool C) ∧ W.cell? ⟨g, 2, none⟩ = some (.bool D) ∧ W.cell? ⟨g, 3, none⟩ = some F ∧ W.cell? ⟨g, 4, none⟩ = some G ∧ Below w.heap.size w W) :
    W'.cell? ⟨g, 0, none⟩ = some (.int .u8 S) ∧ W'.cell? ⟨g, 1, none⟩ = some (.bool C) ∧ W'.cell? ⟨g, 2, none⟩ = some (.bool D) ∧ W'.cell? ⟨g, 3, none⟩ = some F ∧ W'.cell? ⟨g, 4, none⟩ = some G ∧ Below w.heap.size w W' := by
  obtain ⟨h0, h1, h2, h3, h4, h5⟩ := h
  have hg : g < W.heap.size := World.block_lt_of_cell? W _ h0
  exact ⟨(hb.cell (p := ⟨g, 0, none⟩) hg).trans h0, (hb.cell (p := ⟨g, 1, none⟩) hg).trans h1, (hb.cell (p := ⟨g, 2, none⟩) hg).trans h2, (hb.cell (p := ⟨g, 3, none⟩) hg).trans h3, (hb.cell (p := ⟨g, 4, none⟩) hg).trans h4, h5.trans (hb.mono h5.size)⟩
theorem row_drew {w W : World} {g : Nat} {S : Int} {C D : Bool} {F G : Value}
    (h : W.cell? ⟨g, 0, none⟩ = some (.int .u8 S) ∧ W.cell? ⟨g, 1, none⟩ = some (.bool C) ∧ W.cell? ⟨g, 2, none⟩ = some (.bool D) ∧ W.cell? ⟨g, 3, none⟩ = some F ∧ W.cell? ⟨g, 4, none⟩ = some G ∧ Below w.heap.size w W) :
    W.drew.cell? ⟨g, 0, none⟩ = some (.int .u8 S) ∧ W.drew.cell? ⟨g, 1, none⟩ = some (.bool C) ∧ W.drew.cell? ⟨g, 2, none⟩ = some (.bool D) ∧ W.drew.cell? ⟨g, 3, none⟩ = some F ∧ W.drew.cell? ⟨g, 4, none⟩ = some G ∧ Below w.heap.size w W.drew :=
  ⟨h.1, h.2.1, h.2.2.1, h.2.2.2.1, h.2.2.2.2.1, h.2.2.2.2.2.drew⟩
theorem row_new {w w1 : World} {S : Int} {C D : Bool} {F G : Value} (hb : Below w.heap.size w w1) :
    (w1.alloc (.cells #[.int .u8 S, .bool C, .bool D, F, G] 63)).cell? ⟨w1.heap.size, 0, none⟩ = some (.int .u8 S) ∧ (w1.alloc (.cells #[.int .u8 S, .bool C, .bool D, F, G] 63)).cell? ⟨w1.heap.size, 1, none⟩ = some (.bool C) ∧
    (w1.alloc (.cells #[.int .u8 S, .bool C, .bool D, F, G] 63)).cell? ⟨w1.heap.size, 2, none⟩ = some (.bool D) ∧ (w1.alloc (.cells #[.int .u8 S, .bool C, .bool D, F, G] 63)).cell? ⟨w1.heap.size, 3, none⟩ = some F ∧ (w1.alloc (.cells #[.int .u8 S, .bool C, .bool D, F, G] 63)).cell? ⟨w1.heap.size, 4, none⟩ = some G ∧
    Below w.heap.size w (w1.alloc (.cells #[.int .u8 S, .bool C, .bool D, F, G] 63)) :=
  ⟨(cell_of_row _ _ 0 _ 63 (0, 0) (heap_alloc_new _ _)).trans rfl, (cell_of_row _ _ 1 _ 63 (0, 0) (heap_alloc_new _ _)).trans rfl, (cell_of_row _ _ 2 _ 63 (0, 0) (heap_alloc_new _ _)).trans rfl, (cell_of_row _ _ 3 _ 63 (0, 0) (heap_alloc_new _ _)).trans rfl, (cell_of_row _ _ 4 _ 63 (0, 0) (heap_alloc_new _ _)).trans rfl, hb.alloc hb.size _⟩
set_option maxRecDepth 100000 in
theorem q43 (n : Nat) (W : World) : (binOp .eql 60 (.func (.func n) #[] #[]) .nilFunc).run Tryz.prog W = .ok (.bool false) W := by rfl
set_option maxRecDepth 100000 in
theorem z43 (W : World) : (binOp .eql 60 .nilFunc .nilFunc).run Tryz.prog W = .ok (.bool true) W := by rfl
set_option maxRecDepth 100000 in
theorem q44 (n : Nat) (W : World) : (binOp .eql 61 (.func (.func n) #[] #[]) .nilFunc).run Tryz.prog W = .ok (.bool false) W := by rfl
set_option maxRecDepth 100000 in
theorem z44 (W : World) : (binOp .eql 61 .nilFunc .nilFunc).run Tryz.prog W = .ok (.bool true) W := by rfl
theorem cells_one (S : Int) (C D : Bool) (F G : Value) (h1 : F.oneCell' = true) (h2 : G.oneCell' = true) : (#[.int .u8 S, .bool C, .bool D, F, G] : Array Value).all (·.oneCell') = true := by
  rw [← Array.all_toList]
  show ((Value.int .u8 S).oneCell' && ((Value.bool C).oneCell' && ((Value.bool D).oneCell' && (F.oneCell' && (G.oneCell' && true))))) = true
  rw [h1, h2]; rfl
set_option maxRecDepth 100000 in
theorem result_any (S t : Int) (C D : Bool) (F G : Value) (w : World) :
    Calls Tryz.prog 35 #[.agg #[.int .u8 S, .bool C, .bool D, F, G], .int .i64 t] w fun e w' => e = .returned (.int .i64 (if C then 1 else t)) ∧ Below w.heap.size w w' := by
  cases C
  all_goals
    go_enter Tryz.func35, Tryz.ntmps35
    go_wp2
    go_ret
    exact ⟨rfl, (Below.refl _ _).alloc (Nat.le_refl _) _⟩
set_option maxRecDepth 100000 in
set_option maxHeartbeats 1600000 in
theorem two_no (op t a b : Int) (w : World) (cf : Calls Tryz.prog 33 #[.int .i64 op, .int .i64 t] w fun e w' => e = .returned (.tuple #[.agg noRow, .bool false]) ∧ Below w.heap.size w w') :
    Calls Tryz.prog 21 #[.int .i64 op, .int .i64 t, .int .i64 a, .int .i64 b] w fun e w' => e = .returned (.tuple #[.int .i64 0, .int .i64 40]) ∧ Below w.heap.size w w' := by
  unfold noRow at cf
  have ho := cells_one 0 false false .nilFunc .nilFunc rfl rfl
  go_enter Tryz.func21, Tryz.ntmps21
  go_wp2_with fail
  refine cf.mono ?_
  rintro e w1 ⟨rfl, hb1⟩
  have HB := hide hb1
  clear hb1 cf
  go_wp2_with ((with_reducible refine at_store (ty := 63) ?_); go_must (refine wpList_store_rowTo rfl 63 _ _ rfl rfl _ #[.int .u8 0, .bool false, .bool false, .nilFunc, .nilFunc] rfl rfl 63 noRow (heap_alloc_new _ _) size63 rfl ho ?_; rw [World.setRow_alloc_new]))
  go_ret2
  exact ⟨rfl, HB.out.alloc HB.out.size _⟩
set_option maxRecDepth 100000 in
set_option maxHeartbeats 1600000 in
theorem two_nil (op t a b S : Int) (C D : Bool) (n : Nat) (w : World) (cf : Calls Tryz.prog 33 #[.int .i64 op, .int .i64 t] w fun e w' => e = .returned (.tuple #[.agg #[.int .u8 S, .bool C, .bool D, .nilFunc, .func (.func n) #[] #[]], .bool true]) ∧ Below w.heap.size w w') :
    Calls Tryz.prog 21 #[.int .i64 op, .int .i64 t, .int .i64 a, .int .i64 b] w fun e w' => e = .returned (.tuple #[.int .i64 0, .int .i64 40]) ∧ Below w.heap.size w w' := by
  have hz := z43
  have ho := cells_one S C D .nilFunc (.func (.func n) #[] #[]) rfl rfl
  go_enter Tryz.func21, Tryz.ntmps21
  go_wp2_with fail
  refine cf.mono ?_
  rintro e w1 ⟨rfl, hb1⟩
  have HB := hide hb1
  clear hb1 cf
  go_wp2_with ((with_reducible refine at_store (ty := 63) ?_); go_must (refine wpList_store_rowTo rfl 63 _ _ rfl rfl _ #[.int .u8 S, .bool C, .bool D, .nilFunc, .func (.func n) #[] #[]] rfl rfl 63 noRow (heap_alloc_new _ _) size63 rfl ho ?_; rw [World.setRow_alloc_new]))
  go_ret2
  exact ⟨rfl, HB.out.alloc HB.out.size _⟩
set_option maxRecDepth 100000 in
set_option maxHeartbeats 1600000 in
theorem two_range (op t a b S : Int) (C D : Bool) (n : Nat) (w : World) (hg : Glo w) (hr : fitB t a = false ∨ fitB t b = false)
    (cf : Calls Tryz.prog 33 #[.int .i64 op, .int .i64 t] w fun e w' => e = .returned (.tuple #[.agg #[.int .u8 S, .bool C, .bool D, .func (.func n) #[] #[], .nilFunc], .bool true]) ∧ Below w.heap.size w w') :
    Calls Tryz.prog 21 #[.int .i64 op, .int .i64 t, .int .i64 a, .int .i64 b] w fun e w' => e = .returned (.tuple #[.int .i64 0, .int .i64 1]) ∧ Below w.heap.size w w' := by
  have hq := q43 n
  have ho := cells_one S C D (.func (.func n) #[] #[]) .nilFunc rfl rfl
  have HG := hide hg
  have H0 := hide hg.lt
  have fa := fun W hg => fits_any t a W hg
  have fb := fun W hg => fits_any t b W hg
  clear hg
  cases ha : fitB t a with
  | false =>
    rw [ha] at fa
    clear ha hr fb
    go_enter Tryz.func21, Tryz.ntmps21
    go_wp2_with fail
    refine cf.mono ?_
    rintro e w1 ⟨rfl, hb1⟩
    have HB := hide hb1
    clear hb1 cf
    go_wp2_with ((with_reducible refine at_store (ty := 63) ?_); go_must (refine wpList_store_rowTo rfl 63 _ _ rfl rfl _ #[.int .u8 S, .bool C, .bool D, .func (.func n) #[] #[], .nilFunc] rfl rfl 63 noRow (heap_alloc_new _ _) size63 rfl ho ?_; rw [World.setRow_alloc_new]))
    refine (fa _ (HG.out.below (HB.out.alloc HB.out.size _) H0.out)).mono ?_
    rintro e w2 ⟨rfl, rfl⟩
    go_wp2
    go_ret2
    exact ⟨rfl, HB.out.alloc HB.out.size _⟩
  | true =>
    have hb : fitB t b = false := by rcases hr with h | h; · rw [ha] at h; cases h
                                     · exact h
    rw [ha] at fa
    rw [hb] at fb
    clear ha hr hb
    go_enter Tryz.func21, Tryz.ntmps21
    go_wp2_with fail
    refine cf.mono ?_
    rintro e w1 ⟨rfl, hb1⟩
    have HB := hide hb1
    clear hb1 cf
    go_wp2_with ((with_reducible refine at_store (ty := 63) ?_); go_must (refine wpList_store_rowTo rfl 63 _ _ rfl rfl _ #[.int .u8 S, .bool C, .bool D, .func (.func n) #[] #[], .nilFunc] rfl rfl 63 noRow (heap_alloc_new _ _) size63 rfl ho ?_; rw [World.setRow_alloc_new]))
    refine (fa _ (HG.out.below (HB.out.alloc HB.out.size _) H0.out)).mono ?_
    rintro e w2 ⟨rfl, rfl⟩
    go_wp2_with fail
    refine (fb _ (HG.out.below (HB.out.alloc HB.out.size _) H0.out)).mono ?_
    rintro e w2 ⟨rfl, rfl⟩
    go_wp2
    go_ret2
    exact ⟨rfl, HB.out.alloc HB.out.size _⟩
set_option maxRecDepth 100000 in
set_option maxHeartbeats 1600000 in
theorem two_zero_div (op t a S : Int) (C : Bool) (n : Nat) (w : World) (hg : Glo w) (ha : fitB t a = true) (hb : fitB t 0 = true)
    (cf : Calls Tryz.prog 33 #[.int .i64 op, .int .i64 t] w fun e w' => e = .returned (.tuple #[.agg #[.int .u8 S, .bool C, .bool true, .func (.func n) #[] #[], .nilFunc], .bool true]) ∧ Below w.heap.size w w') :
    Calls Tryz.prog 21 #[.int .i64 op, .int .i64 t, .int .i64 a, .int .i64 0] w fun e w' => e = .returned (.tuple #[.int .i64 0, .int .i64 41]) ∧ Below w.heap.size w w' := by
  have hq := q43 n
  have ho := cells_one S C true (.func (.func n) #[] #[]) .nilFunc rfl rfl
  have HG := hide hg
  have H0 := hide hg.lt
  have fa := fun W hg => fits_any t a W hg
  have fb := fun W hg => fits_any t 0 W hg
  rw [ha] at fa
  rw [hb] at fb
  clear ha hb hg
  go_enter Tryz.func21, Tryz.ntmps21
  go_wp2_with fail
  refine cf.mono ?_
  rintro e w1 ⟨rfl, hb1⟩
  have HB := hide hb1
  clear hb1 cf
  go_wp2_with ((with_reducible refine at_store (ty := 63) ?_); go_must (refine wpList_store_rowTo rfl 63 _ _ rfl rfl _ #[.int .u8 S, .bool C, .bool true, .func (.func n) #[] #[], .nilFunc] rfl rfl 63 noRow (heap_alloc_new _ _) size63 rfl ho ?_; rw [World.setRow_alloc_new]))
  refine (fa _ (HG.out.below (HB.out.alloc HB.out.size _) H0.out)).mono ?_
  rintro e w2 ⟨rfl, rfl⟩
  go_wp2_with fail
  refine (fb _ (HG.out.below (HB.out.alloc HB.out.size _) H0.out)).mono ?_
  rintro e w2 ⟨rfl, rfl⟩
  go_wp2
  go_ret2
  exact ⟨rfl, HB.out.alloc HB.out.size _⟩
set_option maxRecDepth 100000 in
set_option maxHeartbeats 1600000 in
theorem two_core (op t a b S r : Int) (C D : Bool) (n : Nat) (hn : ∀ args W, (callFunc n args).run Tryz.prog W = .ok (.enter n args) W) (w : World) (hg : Glo w) (ha : fitB t a = true) (hb : fitB t b = true) (hz : D = true → ¬ b = 0)
    (c2 : ∀ W, Calls Tryz.prog n #[.int .i64 a, .int .i64 b] W fun e w' => e = .returned (.int .i64 r) ∧ w' = W)
    (cf : Calls Tryz.prog 33 #[.int .i64 op, .int .i64 t] w fun e w' => e = .returned (.tuple #[.agg #[.int .u8 S, .bool C, .bool D, .func (.func n) #[] #[], .nilFunc], .bool true]) ∧ Below w.heap.size w w') :
    Calls Tryz.prog 21 #[.int .i64 op, .int .i64 t, .int .i64 a, .int .i64 b] w fun e w' => e = .returned (.tuple #[.int .i64 (wrN (if C then 1 else t) r), .int .i64 0]) ∧ Below w.heap.size w w' := by
  have hq := q43 n
  have ho := cells_one S C D (.func (.func n) #[] #[]) .nilFunc rfl rfl
  have HG := hide hg
  have H0 := hide hg.lt
  have fa := fun W hg => fits_any t a W hg
  have fb := fun W hg => fits_any t b W hg
  have d3 := wrapped_any (if C then 1 else t) r
  have c3 := result_any S t C D (.func (.func n) #[] #[]) .nilFunc
  generalize (if C then 1 else t : Int) = T at *
  rw [ha] at fa
  rw [hb] at fb
  have hD : (D = true ∧ ¬ b = 0) ∨ D = false := by cases D; · exact .inr rfl
                                                   · exact .inl ⟨rfl, hz rfl⟩
  clear ha hb hg hz
  rcases hD with ⟨rfl, hb0⟩ | rfl
  · go_enter Tryz.func21, Tryz.ntmps21
    go_wp2_with fail
    refine cf.mono ?_
    rintro e w1 ⟨rfl, hb1⟩
    have HB := hide hb1
    clear hb1 cf
    go_wp2_with ((with_reducible refine at_store (ty := 63) ?_); go_must (refine wpList_store_rowTo rfl 63 _ _ rfl rfl _ #[.int .u8 S, .bool C, .bool true, .func (.func n) #[] #[], .nilFunc] rfl rfl 63 noRow (heap_alloc_new _ _) size63 rfl ho ?_; rw [World.setRow_alloc_new]))
    refine (fa _ (HG.out.below (HB.out.alloc HB.out.size _) H0.out)).mono ?_
    rintro e w2 ⟨rfl, rfl⟩
    go_wp2_with fail
    refine (fb _ (HG.out.below (HB.out.alloc HB.out.size _) H0.out)).mono ?_
    rintro e w2 ⟨rfl, rfl⟩
    go_wp2_with fail
    have N0 := row_new (S := S) (C := C) (D := true) (F := .func (.func n) #[] #[]) (G := .nilFunc) HB.out
    have C29 := hide (fun W (h : W.cell? ⟨w1.heap.size, 0, none⟩ = some (.int .u8 S) ∧ W.cell? ⟨w1.heap.size, 1, none⟩ = some (.bool C) ∧ W.cell? ⟨w1.heap.size, 2, none⟩ = some (.bool true) ∧ W.cell? ⟨w1.heap.size, 3, none⟩ = some (.func (.func n) #[] #[]) ∧ W.cell? ⟨w1.heap.size, 4, none⟩ = some .nilFunc ∧ Below w.heap.size w W) => (c3 W).mono fun e w' (hh : e = .returned (.int .i64 T) ∧ Below W.heap.size W w') => (⟨hh.1, row_keeps hh.2 h⟩ : e = .returned (.int .i64 T) ∧ w'.cell? ⟨w1.heap.size, 0, none⟩ = some (.int .u8 S) ∧ w'.cell? ⟨w1.heap.size, 1, none⟩ = some (.bool C) ∧ w'.cell? ⟨w1.heap.size, 2, none⟩ = some (.bool true) ∧ w'.cell? ⟨w1.heap.size, 3, none⟩ = some (.func (.func n) #[] #[]) ∧ w'.cell? ⟨w1.heap.size, 4, none⟩ = some .nilFunc ∧ Below w.heap.size w w'))
    have C2 := hide (fun W (h : W.cell? ⟨w1.heap.size, 0, none⟩ = some (.int .u8 S) ∧ W.cell? ⟨w1.heap.size, 1, none⟩ = some (.bool C) ∧ W.cell? ⟨w1.heap.size, 2, none⟩ = some (.bool true) ∧ W.cell? ⟨w1.heap.size, 3, none⟩ = some (.func (.func n) #[] #[]) ∧ W.cell? ⟨w1.heap.size, 4, none⟩ = some .nilFunc ∧ Below w.heap.size w W) => (c2 W).mono fun e w' (hh : e = .returned (.int .i64 r) ∧ w' = W) => (⟨hh.1, by rw [hh.2]; exact h⟩ : e = .returned (.int .i64 r) ∧ w'.cell? ⟨w1.heap.size, 0, none⟩ = some (.int .u8 S) ∧ w'.cell? ⟨w1.heap.size, 1, none⟩ = some (.bool C) ∧ w'.cell? ⟨w1.heap.size, 2, none⟩ = some (.bool true) ∧ w'.cell? ⟨w1.heap.size, 3, none⟩ = some (.func (.func n) #[] #[]) ∧ w'.cell? ⟨w1.heap.size, 4, none⟩ = some .nilFunc ∧ Below w.heap.size w w'))
    have C28 := hide (fun W (h : W.cell? ⟨w1.heap.size, 0, none⟩ = some (.int .u8 S) ∧ W.cell? ⟨w1.heap.size, 1, none⟩ = some (.bool C) ∧ W.cell? ⟨w1.heap.size, 2, none⟩ = some (.bool true) ∧ W.cell? ⟨w1.heap.size, 3, none⟩ = some (.func (.func n) #[] #[]) ∧ W.cell? ⟨w1.heap.size, 4, none⟩ = some .nilFunc ∧ Below w.heap.size w W) => (d3 W).mono fun e w' (hh : e = .returned (.int .i64 (wrN T r)) ∧ w' = W) => (⟨hh.1, by rw [hh.2]; exact h⟩ : e = .returned (.int .i64 (wrN T r)) ∧ w'.cell? ⟨w1.heap.size, 0, none⟩ = some (.int .u8 S) ∧ w'.cell? ⟨w1.heap.size, 1, none⟩ = some (.bool C) ∧ w'.cell? ⟨w1.heap.size, 2, none⟩ = some (.bool true) ∧ w'.cell? ⟨w1.heap.size, 3, none⟩ = some (.func (.func n) #[] #[]) ∧ w'.cell? ⟨w1.heap.size, 4, none⟩ = some .nilFunc ∧ Below w.heap.size w w'))
    clear c3 c2 d3 HG H0 HB fa fb hq ho
    generalize w1.heap.size = g at *
    generalize (w1.alloc _) = W0 at *
    go_region_held3 (fun W => W.cell? ⟨g, 0, none⟩ = some (.int .u8 S) ∧ W.cell? ⟨g, 1, none⟩ = some (.bool C) ∧ W.cell? ⟨g, 2, none⟩ = some (.bool true) ∧ W.cell? ⟨g, 3, none⟩ = some (.func (.func n) #[] #[]) ∧ W.cell? ⟨g, 4, none⟩ = some .nilFunc ∧ Below w.heap.size w W) (first | assumption | exact row_drew N0) (first | (go_at_call 35; refine (C29.out _ ?_).mono ?_; assumption; rintro e w2 ⟨rfl, hrow⟩) | (go_at_call 34; refine (C28.out _ ?_).mono ?_; assumption; rintro e w2 ⟨rfl, hrow⟩) | (refine (C2.out _ ?_).mono ?_; assumption; rintro e w2 ⟨rfl, hrow⟩))
    go_wp2_with fail
    go_ret2
    exact ⟨rfl, hrow.2.2.2.2.2⟩
  · go_enter Tryz.func21, Tryz.ntmps21
    go_wp2_with fail
    refine cf.mono ?_
    rintro e w1 ⟨rfl, hb1⟩
    have HB := hide hb1
    clear hb1 cf
    go_wp2_with ((with_reducible refine at_store (ty := 63) ?_); go_must (refine wpList_store_rowTo rfl 63 _ _ rfl rfl _ #[.int .u8 S, .bool C, .bool false, .func (.func n) #[] #[], .nilFunc] rfl rfl 63 noRow (heap_alloc_new _ _) size63 rfl ho ?_; rw [World.setRow_alloc_new]))
    refine (fa _ (HG.out.below (HB.out.alloc HB.out.size _) H0.out)).mono ?_
    rintro e w2 ⟨rfl, rfl⟩
    go_wp2_with fail
    refine (fb _ (HG.out.below (HB.out.alloc HB.out.size _) H0.out)).mono ?_
    rintro e w2 ⟨rfl, rfl⟩
    go_wp2_with fail
    have N0 := row_new (S := S) (C := C) (D := false) (F := .func (.func n) #[] #[]) (G := .nilFunc) HB.out
    have C29 := hide (fun W (h : W.cell? ⟨w1.heap.size, 0, none⟩ = some (.int .u8 S) ∧ W.cell? ⟨w1.heap.size, 1, none⟩ = some (.bool C) ∧ W.cell? ⟨w1.heap.size, 2, none⟩ = some (.bool false) ∧ W.cell? ⟨w1.heap.size, 3, none⟩ = some (.func (.func n) #[] #[]) ∧ W.cell? ⟨w1.heap.size, 4, none⟩ = some .nilFunc ∧ Below w.heap.size w W) => (c3 W).mono fun e w' (hh : e = .returned (.int .i64 T) ∧ Below W.heap.size W w') => (⟨hh.1, row_keeps hh.2 h⟩ : e = .returned (.int .i64 T) ∧ w'.cell? ⟨w1.heap.size, 0, none⟩ = some (.int .u8 S) ∧ w'.cell? ⟨w1.heap.size, 1, none⟩ = some (.bool C) ∧ w'.cell? ⟨w1.heap.size, 2, none⟩ = some (.bool false) ∧ w'.cell? ⟨w1.heap.size, 3, none⟩ = some (.func (.func n) #[] #[]) ∧ w'.cell? ⟨w1.heap.size, 4, none⟩ = some .nilFunc ∧ Below w.heap.size w w'))
    have C2 := hide (fun W (h : W.cell? ⟨w1.heap.size, 0, none⟩ = some (.int .u8 S) ∧ W.cell? ⟨w1.heap.size, 1, none⟩ = some (.bool C) ∧ W.cell? ⟨w1.heap.size, 2, none⟩ = some (.bool false) ∧ W.cell? ⟨w1.heap.size, 3, none⟩ = some (.func (.func n) #[] #[]) ∧ W.cell? ⟨w1.heap.size, 4, none⟩ = some .nilFunc ∧ Below w.heap.size w W) => (c2 W).mono fun e w' (hh : e = .returned (.int .i64 r) ∧ w' = W) => (⟨hh.1, by rw [hh.2]; exact h⟩ : e = .returned (.int .i64 r) ∧ w'.cell? ⟨w1.heap.size, 0, none⟩ = some (.int .u8 S) ∧ w'.cell? ⟨w1.heap.size, 1, none⟩ = some (.bool C) ∧ w'.cell? ⟨w1.heap.size, 2, none⟩ = some (.bool false) ∧ w'.cell? ⟨w1.heap.size, 3, none⟩ = some (.func (.func n) #[] #[]) ∧ w'.cell? ⟨w1.heap.size, 4, none⟩ = some .nilFunc ∧ Below w.heap.size w w'))
    have C28 := hide (fun W (h : W.cell? ⟨w1.heap.size, 0, none⟩ = some (.int .u8 S) ∧ W.cell? ⟨w1.heap.size, 1, none⟩ = some (.bool C) ∧ W.cell? ⟨w1.heap.size, 2, none⟩ = some (.bool false) ∧ W.cell? ⟨w1.heap.size, 3, none⟩ = some (.func (.func n) #[] #[]) ∧ W.cell? ⟨w1.heap.size, 4, none⟩ = some .nilFunc ∧ Below w.heap.size w W) => (d3 W).mono fun e w' (hh : e = .returned (.int .i64 (wrN T r)) ∧ w' = W) => (⟨hh.1, by rw [hh.2]; exact h⟩ : e = .returned (.int .i64 (wrN T r)) ∧ w'.cell? ⟨w1.heap.size, 0, none⟩ = some (.int .u8 S) ∧ w'.cell? ⟨w1.heap.size, 1, none⟩ = some (.bool C) ∧ w'.cell? ⟨w1.heap.size, 2, none⟩ = some (.bool false) ∧ w'.cell? ⟨w1.heap.size, 3, none⟩ = some (.func (.func n) #[] #[]) ∧ w'.cell? ⟨w1.heap.size, 4, none⟩ = some .nilFunc ∧ Below w.heap.size w w'))
    clear c3 c2 d3 HG H0 HB fa fb hq ho
    generalize w1.heap.size = g at *
    generalize (w1.alloc _) = W0 at *
    go_region_held3 (fun W => W.cell? ⟨g, 0, none⟩ = some (.int .u8 S) ∧ W.cell? ⟨g, 1, none⟩ = some (.bool C) ∧ W.cell? ⟨g, 2, none⟩ = some (.bool false) ∧ W.cell? ⟨g, 3, none⟩ = some (.func (.func n) #[] #[]) ∧ W.cell? ⟨g, 4, none⟩ = some .nilFunc ∧ Below w.heap.size w W) (first | assumption | exact row_drew N0) (first | (go_at_call 35; refine (C29.out _ ?_).mono ?_; assumption; rintro e w2 ⟨rfl, hrow⟩) | (go_at_call 34; refine (C28.out _ ?_).mono ?_; assumption; rintro e w2 ⟨rfl, hrow⟩) | (refine (C2.out _ ?_).mono ?_; assumption; rintro e w2 ⟨rfl, hrow⟩))
    go_wp2_with fail
    go_ret2
    exact ⟨rfl, hrow.2.2.2.2.2⟩
end Go.Proofs.YtldjiieckddhkaaGreatDoor.Four
namespace Go.Proofs.YtldjiieckddhkaaGreatDoor.Four
open Go.RowKit
set_option maxRecDepth 100000 in
set_option maxHeartbeats 1600000 in
theorem one_no (op t a : Int) (w : World) (cf : Calls Tryz.prog 33 #[.int .i64 op, .int .i64 t] w fun e w' => e = .returned (.tuple #[.agg noRow, .bool false]) ∧ Below w.heap.size w w') :
    Calls Tryz.prog 129 #[.int .i64 op, .int .i64 t, .int .i64 a] w fun e w' => e = .returned (.tuple #[.int .i64 0, .int .i64 40]) ∧ Below w.heap.size w w' := by
  unfold noRow at cf
  have ho := cells_one 0 false false .nilFunc .nilFunc rfl rfl
  go_enter Tryz.func129, Tryz.ntmps129
  go_wp2_with fail
  refine cf.mono ?_
  rintro e w1 ⟨rfl, hb1⟩
  have HB := hide hb1
  clear hb1 cf
  go_wp2_with ((with_reducible refine at_store (ty := 63) ?_); go_must (refine wpList_store_rowTo rfl 63 _ _ rfl rfl _ #[.int .u8 0, .bool false, .bool false, .nilFunc, .nilFunc] rfl rfl 63 noRow (heap_alloc_new _ _) size63 rfl ho ?_; rw [World.setRow_alloc_new]))
  go_ret2
  exact ⟨rfl, HB.out.alloc HB.out.size _⟩
set_option maxRecDepth 100000 in
set_option maxHeartbeats 1600000 in
theorem one_nil (op t a S : Int) (C D : Bool) (n : Nat) (w : World) (cf : Calls Tryz.prog 33 #[.int .i64 op, .int .i64 t] w fun e w' => e = .returned (.tuple #[.agg #[.int .u8 S, .bool C, .bool D, .func (.func n) #[] #[], .nilFunc], .bool true]) ∧ Below w.heap.size w w') :
    Calls Tryz.prog 129 #[.int .i64 op, .int .i64 t, .int .i64 a] w fun e w' => e = .returned (.tuple #[.int .i64 0, .int .i64 40]) ∧ Below w.heap.size w w' := by
  have hz := z44
  have ho := cells_one S C D (.func (.func n) #[] #[]) .nilFunc rfl rfl
  go_enter Tryz.func129, Tryz.ntmps129
  go_wp2_with fail
  refine cf.mono ?_
  rintro e w1 ⟨rfl, hb1⟩
  have HB := hide hb1
  clear hb1 cf
  go_wp2_with ((with_reducible refine at_store (ty := 63) ?_); go_must (refine wpList_store_rowTo rfl 63 _ _ rfl rfl _ #[.int .u8 S, .bool C, .bool D, .func (.func n) #[] #[], .nilFunc] rfl rfl 63 noRow (heap_alloc_new _ _) size63 rfl ho ?_; rw [World.setRow_alloc_new]))
  go_ret2
  exact ⟨rfl, HB.out.alloc HB.out.size _⟩
set_option maxRecDepth 100000 in
set_option maxHeartbeats 1600000 in
theorem one_range (op t a S : Int) (C D : Bool) (n : Nat) (w : World) (hg : Glo w) (ha : fitB t a = false)
    (cf : Calls Tryz.prog 33 #[.int .i64 op, .int .i64 t] w fun e w' => e = .returned (.tuple #[.agg #[.int .u8 S, .bool C, .bool D, .nilFunc, .func (.func n) #[] #[]], .bool true]) ∧ Below w.heap.size w w') :
    Calls Tryz.prog 129 #[.int .i64 op, .int .i64 t, .int .i64 a] w fun e w' => e = .returned (.tuple #[.int .i64 0, .int .i64 1]) ∧ Below w.heap.size w w' := by
  have hq := q44 n
  have ho := cells_one S C D .nilFunc (.func (.func n) #[] #[]) rfl rfl
  have HG := hide hg
  have H0 := hide hg.lt
  have fa := fun W hg => fits_any t a W hg
  rw [ha] at fa
  clear hg ha
  go_enter Tryz.func129, Tryz.ntmps129
  go_wp2_with fail
  refine cf.mono ?_
  rintro e w1 ⟨rfl, hb1⟩
  have HB := hide hb1
  clear hb1 cf
  go_wp2_with ((with_reducible refine at_store (ty := 63) ?_); go_must (refine wpList_store_rowTo rfl 63 _ _ rfl rfl _ #[.int .u8 S, .bool C, .bool D, .nilFunc, .func (.func n) #[] #[]] rfl rfl 63 noRow (heap_alloc_new _ _) size63 rfl ho ?_; rw [World.setRow_alloc_new]))
  refine (fa _ (HG.out.below (HB.out.alloc HB.out.size _) H0.out)).mono ?_
  rintro e w2 ⟨rfl, rfl⟩
  go_wp2
  go_ret2
  exact ⟨rfl, HB.out.alloc HB.out.size _⟩
set_option maxRecDepth 100000 in
set_option maxHeartbeats 1600000 in
theorem one_core (op t a S r : Int) (C D : Bool) (n : Nat) (hn : ∀ args W, (callFunc n args).run Tryz.prog W = .ok (.enter n args) W) (w : World) (hg : Glo w) (ha : fitB t a = true)
    (c2 : ∀ W, Calls Tryz.prog n #[.int .i64 a] W fun e w' => e = .returned (.int .i64 r) ∧ w' = W)
    (cf : Calls Tryz.prog 33 #[.int .i64 op, .int .i64 t] w fun e w' => e = .returned (.tuple #[.agg #[.int .u8 S, .bool C, .bool D, .nilFunc, .func (.func n) #[] #[]], .bool true]) ∧ Below w.heap.size w w') :
    Calls Tryz.prog 129 #[.int .i64 op, .int .i64 t, .int .i64 a] w fun e w' => e = .returned (.tuple #[.int .i64 (wrN (if C then 1 else t) r), .int .i64 0]) ∧ Below w.heap.size w w' := by
  have hq := q44 n
  have ho := cells_one S C D .nilFunc (.func (.func n) #[] #[]) rfl rfl
  have HG := hide hg
  have H0 := hide hg.lt
  have fa := fun W hg => fits_any t a W hg
  have d3 := wrapped_any (if C then 1 else t) r
  have c3 := result_any S t C D .nilFunc (.func (.func n) #[] #[])
  generalize (if C then 1 else t : Int) = T at *
  rw [ha] at fa
  clear hg ha
  go_enter Tryz.func129, Tryz.ntmps129
  go_wp2_with fail
  refine cf.mono ?_
  rintro e w1 ⟨rfl, hb1⟩
  have HB := hide hb1
  clear hb1 cf
  go_wp2_with ((with_reducible refine at_store (ty := 63) ?_); go_must (refine wpList_store_rowTo rfl 63 _ _ rfl rfl _ #[.int .u8 S, .bool C, .bool D, .nilFunc, .func (.func n) #[] #[]] rfl rfl 63 noRow (heap_alloc_new _ _) size63 rfl ho ?_; rw [World.setRow_alloc_new]))
  refine (fa _ (HG.out.below (HB.out.alloc HB.out.size _) H0.out)).mono ?_
  rintro e w2 ⟨rfl, rfl⟩
  go_wp2_with fail
  have N0 := row_new (S := S) (C := C) (D := D) (F := .nilFunc) (G := .func (.func n) #[] #[]) HB.out
  have C29 := hide (fun W (h : W.cell? ⟨w1.heap.size, 0, none⟩ = some (.int .u8 S) ∧ W.cell? ⟨w1.heap.size, 1, none⟩ = some (.bool C) ∧ W.cell? ⟨w1.heap.size, 2, none⟩ = some (.bool D) ∧ W.cell? ⟨w1.heap.size, 3, none⟩ = some .nilFunc ∧ W.cell? ⟨w1.heap.size, 4, none⟩ = some (.func (.func n) #[] #[]) ∧ Below w.heap.size w W) => (c3 W).mono fun e w' (hh : e = .returned (.int .i64 T) ∧ Below W.heap.size W w') => (⟨hh.1, row_keeps hh.2 h⟩ : e = .returned (.int .i64 T) ∧ w'.cell? ⟨w1.heap.size, 0, none⟩ = some (.int .u8 S) ∧ w'.cell? ⟨w1.heap.size, 1, none⟩ = some (.bool C) ∧ w'.cell? ⟨w1.heap.size, 2, none⟩ = some (.bool D) ∧ w'.cell? ⟨w1.heap.size, 3, none⟩ = some .nilFunc ∧ w'.cell? ⟨w1.heap.size, 4, none⟩ = some (.func (.func n) #[] #[]) ∧ Below w.heap.size w w'))
  have C2 := hide (fun W (h : W.cell? ⟨w1.heap.size, 0, none⟩ = some (.int .u8 S) ∧ W.cell? ⟨w1.heap.size, 1, none⟩ = some (.bool C) ∧ W.cell? ⟨w1.heap.size, 2, none⟩ = some (.bool D) ∧ W.cell? ⟨w1.heap.size, 3, none⟩ = some .nilFunc ∧ W.cell? ⟨w1.heap.size, 4, none⟩ = some (.func (.func n) #[] #[]) ∧ Below w.heap.size w W) => (c2 W).mono fun e w' (hh : e = .returned (.int .i64 r) ∧ w' = W) => (⟨hh.1, by rw [hh.2]; exact h⟩ : e = .returned (.int .i64 r) ∧ w'.cell? ⟨w1.heap.size, 0, none⟩ = some (.int .u8 S) ∧ w'.cell? ⟨w1.heap.size, 1, none⟩ = some (.bool C) ∧ w'.cell? ⟨w1.heap.size, 2, none⟩ = some (.bool D) ∧ w'.cell? ⟨w1.heap.size, 3, none⟩ = some .nilFunc ∧ w'.cell? ⟨w1.heap.size, 4, none⟩ = some (.func (.func n) #[] #[]) ∧ Below w.heap.size w w'))
  have C28 := hide (fun W (h : W.cell? ⟨w1.heap.size, 0, none⟩ = some (.int .u8 S) ∧ W.cell? ⟨w1.heap.size, 1, none⟩ = some (.bool C) ∧ W.cell? ⟨w1.heap.size, 2, none⟩ = some (.bool D) ∧ W.cell? ⟨w1.heap.size, 3, none⟩ = some .nilFunc ∧ W.cell? ⟨w1.heap.size, 4, none⟩ = some (.func (.func n) #[] #[]) ∧ Below w.heap.size w W) => (d3 W).mono fun e w' (hh : e = .returned (.int .i64 (wrN T r)) ∧ w' = W) => (⟨hh.1, by rw [hh.2]; exact h⟩ : e = .returned (.int .i64 (wrN T r)) ∧ w'.cell? ⟨w1.heap.size, 0, none⟩ = some (.int .u8 S) ∧ w'.cell? ⟨w1.heap.size, 1, none⟩ = some (.bool C) ∧ w'.cell? ⟨w1.heap.size, 2, none⟩ = some (.bool D) ∧ w'.cell? ⟨w1.heap.size, 3, none⟩ = some .nilFunc ∧ w'.cell? ⟨w1.heap.size, 4, none⟩ = some (.func (.func n) #[] #[]) ∧ Below w.heap.size w w'))
  clear c3 c2 d3 HG H0 HB fa hq ho
  generalize w1.heap.size = g at *
  generalize (w1.alloc _) = W0 at *
  go_region_held3 (fun W => W.cell? ⟨g, 0, none⟩ = some (.int .u8 S) ∧ W.cell? ⟨g, 1, none⟩ = some (.bool C) ∧ W.cell? ⟨g, 2, none⟩ = some (.bool D) ∧ W.cell? ⟨g, 3, none⟩ = some .nilFunc ∧ W.cell? ⟨g, 4, none⟩ = some (.func (.func n) #[] #[]) ∧ Below w.heap.size w W) (first | assumption | exact row_drew N0) (first | (go_at_call 35; refine (C29.out _ ?_).mono ?_; assumption; rintro e w2 ⟨rfl, hrow⟩) | (go_at_call 34; refine (C28.out _ ?_).mono ?_; assumption; rintro e w2 ⟨rfl, hrow⟩) | (refine (C2.out _ ?_).mono ?_; assumption; rintro e w2 ⟨rfl, hrow⟩))
  go_wp2_with fail
  go_ret2
  exact ⟨rfl, hrow.2.2.2.2.2⟩
set_option maxRecDepth 100000 in
set_option maxHeartbeats 1600000 in
theorem res_no (op t : Int) (w : World) (cf : Calls Tryz.prog 33 #[.int .i64 op, .int .i64 t] w fun e w' => e = .returned (.tuple #[.agg noRow, .bool false]) ∧ Below w.heap.size w w') :
    Calls Tryz.prog 92 #[.int .i64 op, .int .i64 t] w fun e w' => e = .returned (.tuple #[.int .i64 0, .int .i64 40]) ∧ Below w.heap.size w w' := by
  unfold noRow at cf
  have ho := cells_one 0 false false .nilFunc .nilFunc rfl rfl
  go_enter Tryz.func92, Tryz.ntmps92
  go_wp2_with fail
  refine cf.mono ?_
  rintro e w1 ⟨rfl, hb1⟩
  have HB := hide hb1
  clear hb1 cf
  go_wp2_with ((with_reducible refine at_store (ty := 63) ?_); go_must (refine wpList_store_rowTo rfl 63 _ _ rfl rfl _ #[.int .u8 0, .bool false, .bool false, .nilFunc, .nilFunc] rfl rfl 63 noRow (heap_alloc_new _ _) size63 rfl ho ?_; rw [World.setRow_alloc_new]))
  go_ret2
  exact ⟨rfl, HB.out.alloc HB.out.size _⟩
set_option maxRecDepth 100000 in
set_option maxHeartbeats 1600000 in
theorem res_ok (op t S : Int) (C D : Bool) (F G : Value) (h1 : F.oneCell' = true) (h2 : G.oneCell' = true) (w : World) (cf : Calls Tryz.prog 33 #[.int .i64 op, .int .i64 t] w fun e w' => e = .returned (.tuple #[.agg #[.int .u8 S, .bool C, .bool D, F, G], .bool true]) ∧ Below w.heap.size w w') :
    Calls Tryz.prog 92 #[.int .i64 op, .int .i64 t] w fun e w' => e = .returned (.tuple #[.int .i64 (if C then 1 else t), .int .i64 0]) ∧ Below w.heap.size w w' := by
  have ho := cells_one S C D F G h1 h2
  have c3 := result_any S t C D F G
  generalize (if C then 1 else t : Int) = T at *
  clear h1 h2
  go_enter Tryz.func92, Tryz.ntmps92
  go_wp2_with fail
  refine cf.mono ?_
  rintro e w1 ⟨rfl, hb1⟩
  have HB := hide hb1
  clear hb1 cf
  go_wp2_with ((with_reducible refine at_store (ty := 63) ?_); go_must (refine wpList_store_rowTo rfl 63 _ _ rfl rfl _ #[.int .u8 S, .bool C, .bool D, F, G] rfl rfl 63 noRow (heap_alloc_new _ _) size63 rfl ho ?_; rw [World.setRow_alloc_new]))
  refine (c3 _).mono ?_
  rintro e w2 ⟨rfl, hb2⟩
  have HB2 := hide (show Below w.heap.size w w2 from (HB.out.alloc HB.out.size _).trans (hb2.mono (by have := HB.out.size; simp; omega)))
  clear hb2 HB c3 ho
  go_wp2
  go_ret2
  exact ⟨rfl, HB2.out⟩
end Go.Proofs.YtldjiieckddhkaaGreatDoor.Four
