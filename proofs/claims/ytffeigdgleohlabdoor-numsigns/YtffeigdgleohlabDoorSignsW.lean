/- The walks of NumSigns and NumWidens. -/
import Derived.Test.YtffeigdgleohlabDoorWorksW
import Derived.Test.YtffeigdgleohlabDoorKindW
import Derived.Test.YtffeigdgleohlabDoorConvW
namespace Go.Proofs.YtffeigdgleohlabDoor
open Go.RowKit
theorem below_drewN {B : Nat} {a w : World} (h : Below B a w) (n : Nat) : Below B a (w.drewN n) := ⟨h.os, h.tape, h.output, h.size, h.block⟩
theorem one_new (w : World) (o : Obj) : Below w.heap.size w (w.alloc o) := (Below.refl _ _).alloc (Nat.le_refl _) _
/-- what stands behind each call -/
def DI (w W : World) : Prop := Below w.heap.size w W ∧ Glo W
theorem DI.step {w W W' : World} (h : DI w W) (hb : Below W.heap.size W W') : DI w W' := ⟨h.1.trans (hb.mono h.1.size), h.2.below hb h.2.lt⟩
theorem DI.drewN {w W : World} (h : DI w W) (n : Nat) : DI w (W.drewN n) := ⟨below_drewN h.1 n, fun k hk => h.2 k hk⟩
theorem two_DI (w : World) (op t a b : Int) (r : Int × Int) (hr : twoN op t a b = r) (W : World) (h : DI w W) :
    Calls Tryd.prog 9 #[.int .i64 op, .int .i64 t, .int .i64 a, .int .i64 b] W fun e w' => e = .returned (.tuple #[.int .i64 r.1, .int .i64 r.2]) ∧ DI w w' := by
  rw [← hr]
  exact (two_any op t a b W h.2).mono fun e w' hh => ⟨hh.1, h.step hh.2⟩
theorem one_DI (w : World) (op t a : Int) (r : Int × Int) (hr : oneN op t a = r) (W : World) (h : DI w W) :
    Calls Tryd.prog 8 #[.int .i64 op, .int .i64 t, .int .i64 a] W fun e w' => e = .returned (.tuple #[.int .i64 r.1, .int .i64 r.2]) ∧ DI w w' := by
  rw [← hr]
  exact (one_any op t a W h.2).mono fun e w' hh => ⟨hh.1, h.step hh.2⟩
theorem conv_DI (w : World) (f t n : Int) (r : Int × Int) (hr : convN f t n = r) (W : World) (h : DI w W) :
    Calls Tryd.prog 10 #[.int .i64 f, .int .i64 t, .int .i64 n] W fun e w' => e = .returned (.tuple #[.int .i64 r.1, .int .i64 r.2]) ∧ DI w w' := by
  rw [← hr]
  exact (conv_any f t n W h.2).mono fun e w' hh => ⟨hh.1, by rw [hh.2]; exact h⟩
theorem fits_DI (w : World) (t n : Int) (r : Bool) (hr : fitB t n = r) (W : World) (h : DI w W) : Calls Tryd.prog 11 #[.int .i64 t, .int .i64 n] W fun e w' => e = .returned (.bool r) ∧ DI w w' := by
  rw [← hr]
  exact (fits_any t n W h.2).mono fun e w' hh => ⟨hh.1, by rw [hh.2]; exact h⟩
theorem wrapL_DI (w : World) {t : Int} (ht : tyB t = true) (n : Int) (W : World) (h : DI w W) : Calls Tryd.prog 7 #[.int .i64 t, .int .i64 n] W fun e w' => e = .returned (.int .i64 (wrN t n)) ∧ DI w w' := by
  have c := wrapL_any t n W
  rw [wrapN_ty ht] at c
  exact c.mono fun e w' hh => ⟨hh.1, by rw [hh.2]; exact h⟩
theorem quiet_wr {T : Int} (ht : tyB T = true) (n : Int) (W : World) (m : Nat) : Calls Tryd.prog 7 #[.int .i64 T, .int .i64 n] (W.drewN m) fun e w'' => e = .returned (.int .i64 (wrN T n)) ∧ ∃ q, w'' = W.drewN q := by
  have h := quiet_wrapL T n W m
  rw [wrapN_ty ht] at h
  exact h
theorem one_neg {T a : Int} (hT : T = 2 ∨ T = 3) (ha : fitB T a = true) : oneN 15 T a = (wrN T (-a), 0) := by
  unfold oneN
  rw [if_neg (by rcases hT with rfl | rfl <;> decide), if_neg (by rw [ha]; decide), if_pos rfl]
theorem one_not {T a : Int} (hT : T = 2 ∨ T = 3) (ha : fitB T a = true) : oneN 16 T a = (wrN T (-1 - a), 0) := by
  unfold oneN
  rw [if_neg (by rcases hT with rfl | rfl <;> decide), if_neg (by rw [ha]; decide), if_neg (by decide), if_neg (by rcases hT with rfl | rfl <;> decide)]
theorem sign_facts {T A B : Int} (hT : T = 2 ∨ T = 3) (hA : fitB T A = true) (hB : fitB T B = true) :
    ∃ n s d, oneN 15 T B = (n, 0) ∧ oneN 15 T n = (B, 0) ∧ twoN 2 T A B = (s, 0) ∧ twoN 1 T A n = (s, 0) ∧ oneN 16 T B = (d, 0) ∧ twoN 2 T n 1 = (d, 0) := by
  obtain ⟨ht, h1⟩ := whole_ty hT
  have f := fun n => fit_wr ht n
  have f1 : fitB T 1 = true := by rcases hT with rfl | rfl <;> decide
  refine ⟨wrN T (-B), wrN T (A - B), wrN T (-1 - B), one_neg hT hB, ?_, two_sub hT hA hB, ?_, one_not hT hB, ?_⟩
  · rw [one_neg hT (f _), neg_back h1 hB]
  · rw [two_add hT hA (f _), ← sub_neg h1]
  · rw [two_sub hT (f _) f1, ← not_less h1]
set_option maxRecDepth 100000 in
set_option maxHeartbeats 3200000 in
theorem signs_row (t a b : Int) (_ : (Lit.int .i64 t).wf = true) (_ : (Lit.int .i64 a).wf = true) (_ : (Lit.int .i64 b).wf = true) (w : World) (hg : Glo w) :
    Calls Tryd.prog 3 #[.int .i64 t, .agg #[.int .i64 a, .int .i64 b]] w fun e w' => e = .returned (.bool true) ∧ Below w.heap.size w w' := by
  have HG := hide hg
  have H0 := hide hg.lt
  have ck := kind_any t
  have hT := kind_whole t
  generalize kindN t = T at *
  have ht := (whole_ty hT).1
  have cq := fun n W m => quiet_wr ht n W m
  obtain ⟨n, s, d, e1, e2, e3, e4, e5, e6⟩ := sign_facts hT (fit_wr ht a) (fit_wr ht b)
  have k1 := hide (one_DI w 15 T _ _ e1)
  have k2 := hide (one_DI w 15 T _ _ e2)
  have k3 := hide (two_DI w 2 T _ _ _ e3)
  have k4 := hide (two_DI w 1 T _ _ _ e4)
  have k5 := hide (one_DI w 16 T _ _ e5)
  have k6 := hide (two_DI w 2 T _ _ _ e6)
  clear hT ht hg e1 e2 e3 e4 e5 e6
  go_enter Tryd.func3, Tryd.ntmps3
  go_wp2_with fail
  refine (works_any _ (HG.out.below (one_new w _) H0.out)).mono ?_
  rintro e0 w1 ⟨rfl, hb1⟩
  have x1 := (hb1.cell (p := ⟨w.heap.size, 0, none⟩) (by simp)).trans ((cell_of_row _ _ 0 _ 23 (0, 0) (heap_alloc_new _ _)).trans rfl)
  have x2 := (hb1.cell (p := ⟨w.heap.size, 1, none⟩) (by simp)).trans ((cell_of_row _ _ 1 _ 23 (0, 0) (heap_alloc_new _ _)).trans rfl)
  have B1 := show Below w.heap.size w w1 from (one_new w _).trans (hb1.mono (by simp))
  have R0 := hide (show DI w w1 from ⟨B1, HG.out.below B1 H0.out⟩)
  clear hb1 B1 HG H0
  go_wp2_with fail
  refine (ck _).mono ?_
  rintro e0 w2 ⟨rfl, rfl⟩
  clear ck
  go_wp2_with fail
  go_quiet ((go_at_call 7; exact cq _ _ _))
  have R1 := hide (R0.out.drewN nq)
  clear R0 cq x1 x2
  generalize (w2.drewN nq) = W2 at *
  generalize wrN T a = A at *
  generalize wrN T b = B at *
  go_wp2_with fail
  refine (k1.out _ R1.out).mono ?_
  rintro e0 v1 ⟨rfl, r1⟩
  have R2 := hide r1
  clear r1 R1 k1
  go_wp2_with fail
  refine (k2.out _ R2.out).mono ?_
  rintro e0 v2 ⟨rfl, r2⟩
  have R3 := hide r2
  clear r2 R2 k2
  go_wp2_with fail
  refine (k3.out _ R3.out).mono ?_
  rintro e0 v3 ⟨rfl, r3⟩
  have R4 := hide r3
  clear r3 R3 k3
  go_wp2_with fail
  refine (k4.out _ R4.out).mono ?_
  rintro e0 v4 ⟨rfl, r4⟩
  have R5 := hide r4
  clear r4 R4 k4
  go_wp2_with fail
  refine (k5.out _ R5.out).mono ?_
  rintro e0 v5 ⟨rfl, r5⟩
  have R6 := hide r5
  clear r5 R5 k5
  go_wp2_with fail
  refine (k6.out _ R6.out).mono ?_
  rintro e0 v6 ⟨rfl, r6⟩
  have R7 := hide r6
  clear r6 R6 k6
  go_wp2
  go_ret
  exact ⟨rfl, R7.out.1⟩
theorem fits23 (n : Int) : fitB 3 (wrN 2 n) = true := by
  have h := wide n
  have := fit_wr (t := 3) (by decide) (wrN 2 n)
  rwa [h] at this
theorem conv_plain {f t n : Int} (h1 : tyB f = true) (h2 : tyB t = true) (h3 : ¬ f = 1) (h4 : ¬ t = 1) (h5 : fitB f n = true) : convN f t n = (wrN t n, 0) := by
  unfold convN
  rw [if_neg (by rw [h1, h2, decide_eq_false h3, decide_eq_false h4]; decide), if_neg (by rw [h5]; decide)]
theorem wide_facts (n : Int) :
    ∃ a x k, wrN 2 n = a ∧ wrN 3 n = x ∧ convN 2 3 a = (a, 0) ∧ convN 3 2 a = (a, 0) ∧ convN 3 2 x = (k, 0) ∧ convN 1 2 1 = (0, 40) ∧ (wrap64 (x - k)).tmod 65536 = 0 ∧ fitB 2 k = true := by
  have f2 := fun n => fit_wr (t := 2) (by decide) n
  have f3 := fun n => fit_wr (t := 3) (by decide) n
  refine ⟨wrN 2 n, wrN 3 n, wrN 2 (wrN 3 n), rfl, rfl, ?_, ?_, conv_plain (by decide) (by decide) (by decide) (by decide) (f3 n), by decide, ?_, f2 _⟩
  · rw [conv_plain (by decide) (by decide) (by decide) (by decide) (f2 n), wide]
  · rw [conv_plain (by decide) (by decide) (by decide) (by decide) (fits23 n), wr_fit (f2 n)]
  · have a := R_of_fit (f3 n)
    have b := R_of_fit (f2 (wrN 3 n))
    rw [w_sub a b]
    exact narrow_mod _
set_option maxRecDepth 100000 in
set_option maxHeartbeats 3200000 in
theorem widens_row (n : Int) (_ : (Lit.int .i64 n).wf = true) (w : World) (hg : Glo w) :
    Calls Tryd.prog 4 #[.int .i64 n] w fun e w' => e = .returned (.bool true) ∧ Below w.heap.size w w' := by
  have HG := hide hg
  have H0 := hide hg.lt
  have cw := works_any w hg
  obtain ⟨a, x, k, ea, ex, e1, e2, e3, e4, e5, e6⟩ := wide_facts n
  have k0 := hide (wrapL_DI w (t := 2) (by decide) n)
  have k3 := hide (wrapL_DI w (t := 3) (by decide) n)
  rw [ea] at k0
  rw [ex] at k3
  have k1 := hide (conv_DI w 2 3 a _ e1)
  have k2 := hide (conv_DI w 3 2 a _ e2)
  have k4 := hide (conv_DI w 3 2 x _ e3)
  have k5 := hide (conv_DI w 1 2 1 _ e4)
  have k6 := hide (fits_DI w 2 k _ e6)
  clear ea ex e1 e2 e3 e4 e6 hg
  go_enter Tryd.func4, Tryd.ntmps4
  go_wp2_with fail
  refine cw.mono ?_
  rintro e0 w1 ⟨rfl, hb1⟩
  have R0 := hide (show DI w w1 from ⟨hb1, HG.out.below hb1 H0.out⟩)
  clear hb1 HG H0 cw
  go_wp2_with fail
  refine (k0.out _ R0.out).mono ?_
  rintro e0 v0 ⟨rfl, r0⟩
  have R1 := hide r0
  clear r0 R0 k0
  go_wp2_with fail
  refine (k1.out _ R1.out).mono ?_
  rintro e0 v1 ⟨rfl, r1⟩
  have R2 := hide r1
  clear r1 R1 k1
  go_wp2_with fail
  refine (k2.out _ R2.out).mono ?_
  rintro e0 v2 ⟨rfl, r2⟩
  have R3 := hide r2
  clear r2 R2 k2
  go_wp2_with fail
  refine (k3.out _ R3.out).mono ?_
  rintro e0 v3 ⟨rfl, r3⟩
  have R4 := hide r3
  clear r3 R3 k3
  go_wp2_with fail
  refine (k4.out _ R4.out).mono ?_
  rintro e0 v4 ⟨rfl, r4⟩
  have R5 := hide r4
  clear r4 R4 k4
  go_wp2_with fail
  refine (k5.out _ R5.out).mono ?_
  rintro e0 v5 ⟨rfl, r5⟩
  have R6 := hide r5
  clear r5 R5 k5
  go_wp2_with fail
  refine (k6.out _ R6.out).mono ?_
  rintro e0 v6 ⟨rfl, r6⟩
  have R7 := hide r6
  clear r6 R6 k6
  go_wp2
  go_ret
  exact ⟨rfl, R7.out.1⟩
end Go.Proofs.YtffeigdgleohlabDoor
