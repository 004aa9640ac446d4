/- The walk of NumCompares. -/
import Derived.Test.YtffeigdgleohlaaDoorDividesW
import Derived.Deep.CutRange
import Derived.Deep.RegionHeld3
namespace Go.Proofs.YtffeigdgleohlaaDoor
open Go.RowKit
def kind3 (n : Int) : Int := 2 + n % 18446744073709551616 % 3
theorem kind3_in (n : Int) : kind3 n = 2 ∨ kind3 n = 3 ∨ kind3 n = 4 := by unfold kind3; omega
theorem kind3_eq (n : Int) : wrap64 (2 + wrap64 ((IntKind.u64.wrap n).tmod 3)) = kind3 n := by
  have e : IntKind.u64.wrap n = n % 18446744073709551616 := by simp [IntKind.wrap, IntKind.bits, IntKind.signed]
  have h := Int.emod_nonneg n (show (18446744073709551616 : Int) ≠ 0 by decide)
  unfold kind3
  rw [e, Int.tmod_eq_emod_of_nonneg h, w64 (n := n % 18446744073709551616 % 3) (by omega) (by omega), w64 (by omega) (by omega)]
/-- what stands behind each call: the cells that the closure reads -/
def CI (w : World) (T A B : Int) (g h : Nat) (W : World) : Prop := DI w W ∧ W.cell? ⟨w.heap.size, 0, none⟩ = some (.int .i64 T) ∧ W.cell? ⟨g, 0, none⟩ = some (.int .i64 A) ∧ W.cell? ⟨h, 0, none⟩ = some (.int .i64 B)
theorem CI.step {w : World} {T A B : Int} {g h : Nat} {W W' : World} (k : CI w T A B g h W) (hb : Below W.heap.size W W') : CI w T A B g h W' :=
  ⟨k.1.step hb, (hb.cell (p := ⟨w.heap.size, 0, none⟩) (World.block_lt_of_cell? W _ k.2.1)).trans k.2.1, (hb.cell (p := ⟨g, 0, none⟩) (World.block_lt_of_cell? W _ k.2.2.1)).trans k.2.2.1, (hb.cell (p := ⟨h, 0, none⟩) (World.block_lt_of_cell? W _ k.2.2.2)).trans k.2.2.2⟩
theorem DI.two {w W : World} (h : DI w W) (o1 o2 : Obj) : DI w ((W.alloc o1).alloc o2).drew := by
  have hb : Below W.heap.size W ((W.alloc o1).alloc o2).drew := (below2 W o1 o2).drew
  exact h.step hb
theorem CI_ab {w W : World} {T A B : Int} (h : DI w W) (hT : W.cell? ⟨w.heap.size, 0, none⟩ = some (.int .i64 T)) : CI w T A B W.heap.size (W.heap.size + 1) ((W.alloc (.cells #[.int .i64 A] 2)).alloc (.cells #[.int .i64 B] 2)).drew :=
  ⟨h.two _ _, ((below2 W _ _).cell (p := ⟨w.heap.size, 0, none⟩) (World.block_lt_of_cell? W _ hT)).trans hT, (cell_of_row _ _ 0 _ 2 (0, 0) (one_at W _ _)).trans rfl, (cell_of_row _ _ 0 _ 2 (0, 0) (two_at W _ _)).trans rfl⟩
theorem CI_ba {w W : World} {T A B : Int} (h : DI w W) (hT : W.cell? ⟨w.heap.size, 0, none⟩ = some (.int .i64 T)) : CI w T A B (W.heap.size + 1) W.heap.size ((W.alloc (.cells #[.int .i64 B] 2)).alloc (.cells #[.int .i64 A] 2)).drew :=
  ⟨h.two _ _, ((below2 W _ _).cell (p := ⟨w.heap.size, 0, none⟩) (World.block_lt_of_cell? W _ hT)).trans hT, (cell_of_row _ _ 0 _ 2 (0, 0) (two_at W _ _)).trans rfl, (cell_of_row _ _ 0 _ 2 (0, 0) (one_at W _ _)).trans rfl⟩
theorem is_CI {w : World} {T A B : Int} {g h : Nat} (op : Int) (f : Bool) (hr : twoN op T A B = (flagN f, 0)) (W : World) (k : CI w T A B g h W) :
    Calls Tryd.prog 26 #[.int .i64 op, .pointer (some ⟨w.heap.size, 0, none⟩), .pointer (some ⟨g, 0, none⟩), .pointer (some ⟨h, 0, none⟩)] W fun e w' => e = .returned (.bool f) ∧ CI w T A B g h w' :=
  (is_any op T A B f w.heap.size g h W k.1.2 k.2.1 k.2.2.1 k.2.2.2 hr).mono fun _ _ hh => ⟨hh.1, k.step hh.2⟩
set_option maxRecDepth 100000 in
set_option maxHeartbeats 3200000 in
theorem compares_row (t a b : Int) (_ : (Lit.int .i64 t).wf = true) (_ : (Lit.int .i64 a).wf = true) (_ : (Lit.int .i64 b).wf = true) (w : World) (hg : Glo w) :
    Calls Tryd.prog 8 #[.int .i64 t, .agg #[.int .i64 a, .int .i64 b]] w fun e w' => e = .returned (.bool true) ∧ Below w.heap.size w w' := by
  have HG := hide hg
  have H0 := hide hg.lt
  have hk := kind3_eq t
  have hT := kind3_in t
  generalize kind3 t = T at *
  have ht : tyB T = true := by rcases hT with rfl | rfl | rfl <;> decide
  have cc : ∀ (n : Int) (W : World), Calls Tryd.prog 24 #[.int .i64 T, .int .i64 n] W fun e w' => e = .returned (.int .i64 (wrN T n)) ∧ w' = W := fun n W => by
    have h := wrapL_any T n W
    rw [wrapN_ty ht] at h
    exact h
  have HA := hide (fit_wr ht a)
  have HB := hide (fit_wr ht b)
  have HT := hide hT
  clear hT ht hg
  go_enter Tryd.func8, Tryd.ntmps8
  go_wp2_with fail
  refine (works_any _ (HG.out.below (below2 w _ _) H0.out)).mono ?_
  rintro e0 w1 ⟨rfl, hb1⟩
  have x0 := (hb1.cell (p := ⟨w.heap.size, 0, none⟩) (by simp; omega)).trans ((cell_of_row _ _ 0 _ 3 (0, 0) (one_at w _ _)).trans rfl)
  have x1 := (hb1.cell (p := ⟨w.heap.size + 1, 0, none⟩) (by simp)).trans ((cell_of_row _ _ 0 _ 23 (0, 0) (two_at w _ _)).trans rfl)
  have x2 := (hb1.cell (p := ⟨w.heap.size + 1, 1, none⟩) (by simp)).trans ((cell_of_row _ _ 1 _ 23 (0, 0) (two_at w _ _)).trans rfl)
  have x3 : w1.frozen? ⟨w.heap.size, 0, none⟩ = false := (hb1.frozen (p := ⟨w.heap.size, 0, none⟩) (by simp; omega)).trans (froz _ _ _ _ _ (one_at w _ _))
  have B1 := hide (show Below w.heap.size w w1 from (below2 w _ _).trans (hb1.mono (by simp; omega)))
  clear hb1
  go_upto_region 4 with fail
  have y0 : (w1.setCell ⟨w.heap.size, 0, none⟩ (.int .i64 T)).cell? ⟨w.heap.size, 0, none⟩ = some (.int .i64 T) := World.cell?_setCell_same _ _ _ x0
  have y1 := (World.cell?_setCell_other w1 ⟨w.heap.size, 0, none⟩ ⟨w.heap.size + 1, 0, none⟩ (.int .i64 T) (fun e => by injection e with e1 _ _; omega)).trans x1
  have y2 := (World.cell?_setCell_other w1 ⟨w.heap.size, 0, none⟩ ⟨w.heap.size + 1, 1, none⟩ (.int .i64 T) (fun e => by injection e with e1 _ _; omega)).trans x2
  have B2 := hide (B1.out.setCell (p := ⟨w.heap.size, 0, none⟩) (Nat.le_refl _) (.int .i64 T))
  have hs2 : w.heap.size + 1 < (w1.setCell ⟨w.heap.size, 0, none⟩ (.int .i64 T)).heap.size := World.block_lt_of_cell? _ _ y1
  clear x0 x1 x2 x3 B1 hk
  generalize (w1.setCell ⟨w.heap.size, 0, none⟩ (.int .i64 T)) = W2 at *
  have y0' : W2.cell? ⟨w.heap.size, 0, none⟩ = some (.int .i64 T) := y0
  have y1' : W2.cell? ⟨w.heap.size + 1, 0, none⟩ = some (.int .i64 a) := y1
  have y2' : W2.cell? ⟨w.heap.size + 1, 1, none⟩ = some (.int .i64 b) := y2
  clear y0 y1 y2
  have D2 := hide (show DI w W2 from ⟨B2.out, HG.out.below B2.out H0.out⟩)
  clear B2 HG H0
  go_cut [5, 6] from 19 to 26 (fun p q wx => ∃ g h, p = .pointer (some ⟨g, 0, none⟩) ∧ q = .pointer (some ⟨h, 0, none⟩) ∧ CI w T (wrN T a) (wrN T b) g h wx)
  case first =>
    go_region_held3 (fun W => W.cell? ⟨w.heap.size, 0, none⟩ = some (.int .i64 T) ∧ W.cell? ⟨w.heap.size + 1, 0, none⟩ = some (.int .i64 a) ∧ W.cell? ⟨w.heap.size + 1, 1, none⟩ = some (.int .i64 b)) (go_keep) (first | (go_at_call 24; refine (cc _ _).mono ?_; rintro e w' ⟨rfl, rfl⟩))
    all_goals (go_wp2_with fail; go_meet; first | exact ⟨_, _, rfl, rfl, CI_ab D2.out y0'⟩ | exact ⟨_, _, rfl, rfl, CI_ba D2.out y0'⟩)
  case rest =>
  obtain ⟨g, h, rfl, rfl, hC⟩ := hcut
  have R1 := hide hC
  clear hC cc D2 y0' y1' y2' hs2
  generalize wrN T a = A at *
  generalize wrN T b = B at *
  obtain ⟨f9, f10, f11, f12, f13, f14⟩ := cmp_flags HT.out HA.out HB.out
  have k9 := hide (is_CI (w := w) (g := g) (h := h) 9 _ f9)
  have k10 := hide (is_CI (w := w) (g := g) (h := h) 10 _ f10)
  have k11 := hide (is_CI (w := w) (g := g) (h := h) 11 _ f11)
  have k12 := hide (is_CI (w := w) (g := g) (h := h) 12 _ f12)
  have k13 := hide (is_CI (w := w) (g := g) (h := h) 13 _ f13)
  have k14 := hide (is_CI (w := w) (g := g) (h := h) 14 _ f14)
  clear HT HA HB f9 f10 f11 f12 f13 f14
  have tri : (A < B ∧ ¬ A = B ∧ ¬ B < A ∧ A ≤ B ∧ ¬ B ≤ A) ∨ (¬ A < B ∧ A = B ∧ ¬ B < A ∧ A ≤ B ∧ B ≤ A) ∨ (¬ A < B ∧ ¬ A = B ∧ B < A ∧ ¬ A ≤ B ∧ B ≤ A) := by omega
  rcases tri with ⟨t1, t2, t3, t4, t5⟩ | ⟨t1, t2, t3, t4, t5⟩ | ⟨t1, t2, t3, t4, t5⟩
  · rw [decide_eq_true t1] at k11
    rw [decide_eq_false t2] at k9
    rw [decide_eq_false t3] at k13
    rw [decide_eq_true t4] at k12
    rw [decide_eq_false t5] at k14
    rw [decide_eq_true t2] at k10
    have T1 := hide t1
    clear t2 t3 t4 t5
    go_wp2_with fail
    refine (k11.out _ R1.out).mono ?_
    rintro e0 v1 ⟨rfl, r1⟩
    have c1a := r1.2.2.1
    have c1b := r1.2.2.2
    have R2 := hide r1
    clear r1 R1 k11
    go_wp2_with fail
    refine (k9.out _ R2.out).mono ?_
    rintro e0 v2 ⟨rfl, r2⟩
    have c2a := r2.2.2.1
    have c2b := r2.2.2.2
    have R3 := hide r2
    clear r2 R2 k9 c1a c1b
    go_wp2_with fail
    refine (k13.out _ R3.out).mono ?_
    rintro e0 v3 ⟨rfl, r3⟩
    have c3a := r3.2.2.1
    have c3b := r3.2.2.2
    have R4 := hide r3
    clear r3 R3 k13 c2a c2b
    go_wp2_with fail
    refine (k12.out _ R4.out).mono ?_
    rintro e0 v4 ⟨rfl, r4⟩
    have c4a := r4.2.2.1
    have c4b := r4.2.2.2
    have R5 := hide r4
    clear r4 R4 k12 c3a c3b
    go_wp2_with fail
    refine (k14.out _ R5.out).mono ?_
    rintro e0 v5 ⟨rfl, r5⟩
    have c5a := r5.2.2.1
    have c5b := r5.2.2.2
    have R6 := hide r5
    clear r5 R5 k14 c4a c4b
    go_wp2_with fail
    refine (k10.out _ R6.out).mono ?_
    rintro e0 v6 ⟨rfl, r6⟩
    have c6a := r6.2.2.1
    have c6b := r6.2.2.2
    have R7 := hide r6
    clear r6 R6 k10 c5a c5b
    go_wp2
    go_ret
    exact ⟨rfl, R7.out.1.1⟩
  · rw [decide_eq_false t1] at k11
    rw [decide_eq_true t2] at k9
    rw [decide_eq_false t3] at k13
    rw [decide_eq_true t4] at k12
    rw [decide_eq_true t5] at k14
    rw [decide_eq_false (fun h => h t2)] at k10
    have T1 := hide t1
    clear t2 t3 t4 t5
    go_wp2_with fail
    refine (k11.out _ R1.out).mono ?_
    rintro e0 v1 ⟨rfl, r1⟩
    have c1a := r1.2.2.1
    have c1b := r1.2.2.2
    have R2 := hide r1
    clear r1 R1 k11
    go_wp2_with fail
    refine (k9.out _ R2.out).mono ?_
    rintro e0 v2 ⟨rfl, r2⟩
    have c2a := r2.2.2.1
    have c2b := r2.2.2.2
    have R3 := hide r2
    clear r2 R2 k9 c1a c1b
    go_wp2_with fail
    refine (k13.out _ R3.out).mono ?_
    rintro e0 v3 ⟨rfl, r3⟩
    have c3a := r3.2.2.1
    have c3b := r3.2.2.2
    have R4 := hide r3
    clear r3 R3 k13 c2a c2b
    go_wp2_with fail
    refine (k12.out _ R4.out).mono ?_
    rintro e0 v4 ⟨rfl, r4⟩
    have c4a := r4.2.2.1
    have c4b := r4.2.2.2
    have R5 := hide r4
    clear r4 R4 k12 c3a c3b
    go_wp2_with fail
    refine (k14.out _ R5.out).mono ?_
    rintro e0 v5 ⟨rfl, r5⟩
    have c5a := r5.2.2.1
    have c5b := r5.2.2.2
    have R6 := hide r5
    clear r5 R5 k14 c4a c4b
    go_wp2_with fail
    refine (k10.out _ R6.out).mono ?_
    rintro e0 v6 ⟨rfl, r6⟩
    have c6a := r6.2.2.1
    have c6b := r6.2.2.2
    have R7 := hide r6
    clear r6 R6 k10 c5a c5b
    go_wp2
    go_ret
    exact ⟨ret_bool (by first | rfl | (rw [decide_eq_false (Int.not_lt.2 T1.out)]; rfl)), R7.out.1.1⟩
  · rw [decide_eq_false t1] at k11
    rw [decide_eq_false t2] at k9
    rw [decide_eq_true t3] at k13
    rw [decide_eq_false t4] at k12
    rw [decide_eq_true t5] at k14
    rw [decide_eq_true t2] at k10
    have T1 := hide t1
    clear t2 t3 t4 t5
    go_wp2_with fail
    refine (k11.out _ R1.out).mono ?_
    rintro e0 v1 ⟨rfl, r1⟩
    have c1a := r1.2.2.1
    have c1b := r1.2.2.2
    have R2 := hide r1
    clear r1 R1 k11
    go_wp2_with fail
    refine (k9.out _ R2.out).mono ?_
    rintro e0 v2 ⟨rfl, r2⟩
    have c2a := r2.2.2.1
    have c2b := r2.2.2.2
    have R3 := hide r2
    clear r2 R2 k9 c1a c1b
    go_wp2_with fail
    refine (k13.out _ R3.out).mono ?_
    rintro e0 v3 ⟨rfl, r3⟩
    have c3a := r3.2.2.1
    have c3b := r3.2.2.2
    have R4 := hide r3
    clear r3 R3 k13 c2a c2b
    go_wp2_with fail
    refine (k12.out _ R4.out).mono ?_
    rintro e0 v4 ⟨rfl, r4⟩
    have c4a := r4.2.2.1
    have c4b := r4.2.2.2
    have R5 := hide r4
    clear r4 R4 k12 c3a c3b
    go_wp2_with fail
    refine (k14.out _ R5.out).mono ?_
    rintro e0 v5 ⟨rfl, r5⟩
    have c5a := r5.2.2.1
    have c5b := r5.2.2.2
    have R6 := hide r5
    clear r5 R5 k14 c4a c4b
    go_wp2_with fail
    refine (k10.out _ R6.out).mono ?_
    rintro e0 v6 ⟨rfl, r6⟩
    have c6a := r6.2.2.1
    have c6b := r6.2.2.2
    have R7 := hide r6
    clear r6 R6 k10 c5a c5b
    go_wp2
    go_ret
    exact ⟨ret_bool (by first | rfl | (rw [decide_eq_false (Int.not_lt.2 T1.out)]; rfl)), R7.out.1.1⟩
end Go.Proofs.YtffeigdgleohlaaDoor
