/- The walk of NumFits. -/
import Derived.Test.YtffeigdgleohlaaDoorDividesW
namespace Go.Proofs.YtffeigdgleohlaaDoor
open Go.RowKit
theorem wrap_DI (w : World) (t n : Int) (r : Int × Int) (hr : wrapN t n = r) (W : World) (h : DI w W) : Calls Tryd.prog 17 #[.int .i64 t, .int .i64 n] W fun e w' => e = .returned (.tuple #[.int .i64 r.1, .int .i64 r.2]) ∧ w' = W ∧ DI w W := by
  rw [← hr]
  exact (wrap_any t n W).mono fun e w' hh => ⟨hh.1, hh.2, h⟩
theorem fits_DI (w : World) (t n : Int) (r : Bool) (hr : fitB t n = r) (W : World) (h : DI w W) : Calls Tryd.prog 21 #[.int .i64 t, .int .i64 n] W fun e w' => e = .returned (.bool r) ∧ w' = W ∧ DI w W := by
  rw [← hr]
  exact (fits_any t n W h.2).mono fun e w' hh => ⟨hh.1, hh.2, h⟩
theorem quiet_fits {w W : World} (h : DI w W) (t n : Int) (m : Nat) : Calls Tryd.prog 21 #[.int .i64 t, .int .i64 n] (W.drewN m) fun e w'' => e = .returned (.bool (fitB t n)) ∧ ∃ q, w'' = W.drewN q :=
  (fits_any t n (W.drewN m) (h.drewN m).2).mono fun _ _ ⟨h1, h2⟩ => ⟨h1, m, h2⟩
set_option maxRecDepth 100000 in
set_option maxHeartbeats 3200000 in
theorem fits_row (op t a b : Int) (_ : (Lit.int .i64 op).wf = true) (_ : (Lit.int .i64 t).wf = true) (_ : (Lit.int .i64 a).wf = true) (_ : (Lit.int .i64 b).wf = true) (w : World) (hg : Glo w) :
    Calls Tryd.prog 5 #[.int .i64 op, .int .i64 t, .agg #[.int .i64 a, .int .i64 b]] w fun e w' => e = .returned (.bool true) ∧ Below w.heap.size w w' := by
  have HG := hide hg
  have H0 := hide hg.lt
  clear hg
  cases ht : tyB t with
  | false =>
    have e1 : wrapN t a = (0, 40) := by unfold wrapN; rw [if_pos ht]
    have e2 : fitB t a = false := by cases h : fitB t a with
      | false => rfl
      | true => rw [fit_ty h] at ht; cases ht
    have k1 := hide (wrap_DI w t a _ e1)
    have k2 := hide (fits_DI w t a _ e2)
    clear ht e1 e2
    go_enter Tryd.func5, Tryd.ntmps5
    go_wp2_with fail
    refine (works_any _ (HG.out.below (one_new w _) H0.out)).mono ?_
    rintro e0 w1 ⟨rfl, hb1⟩
    have x1 := (hb1.cell (p := ⟨w.heap.size, 0, none⟩) (by simp)).trans ((cell_of_row _ _ 0 _ 23 (0, 0) (heap_alloc_new _ _)).trans rfl)
    have B1 := show Below w.heap.size w w1 from (one_new w _).trans (hb1.mono (by simp))
    have R0 := hide (show DI w w1 from ⟨B1, HG.out.below B1 H0.out⟩)
    clear hb1 B1 HG H0
    go_wp2_with fail
    refine (k1.out _ R0.out).mono ?_
    rintro e0 v1 ⟨rfl, rfl, -⟩
    go_wp2_with fail
    refine (k2.out _ R0.out).mono ?_
    rintro e0 v2 ⟨rfl, rfl, -⟩
    go_wp2
    go_ret
    exact ⟨rfl, R0.out.1⟩
  | true =>
    have hn := fit_wr ht a
    have hm := fit_wr ht b
    have e1 := wrapN_ty ht a
    have e2 : wrapN t (wrN t a) = (wrN t a, 0) := by rw [wrapN_ty ht, wr_wr ht]
    have e3 := wrapN_ty ht b
    have e4 : fitB t a = decide (wrN t a = a) := fit_iff ht a
    have e5 := two_fits op t (wrN t a) (wrN t b) hn hm
    generalize wrN t a = n at *
    generalize wrN t b = m at *
    have hF : ∃ F, fitB t a = F ∧ (n == a) = F := by
      by_cases h : n = a
      · exact ⟨true, by rw [e4, decide_eq_true h], by rw [h]; simp⟩
      · exact ⟨false, by rw [e4, decide_eq_false h], by simp [h]⟩
    obtain ⟨F, hF1, hF2⟩ := hF
    have k1 := hide (wrap_DI w t a _ e1)
    have k2 := hide (wrap_DI w t n _ e2)
    have k3 := hide (wrap_DI w t b _ e3)
    obtain ⟨⟨r, g⟩, hr⟩ : ∃ r, r = twoN op t n m := ⟨_, rfl⟩
    obtain ⟨⟨o, h⟩, ho⟩ : ∃ r, r = resN op t := ⟨_, rfl⟩
    rw [← hr, ← ho] at e5
    have k4 := hide (two_DI w op t n m _ hr.symm)
    have HN := hide hn
    have HF1 := hide hF1
    have E5 := hide e5
    have c6 := fun W => res_any op t W
    rw [← ho] at c6
    clear ht hn hm e1 e2 e3 e4 e5 hr hF1 ho
    go_enter Tryd.func5, Tryd.ntmps5
    go_wp2_with fail
    refine (works_any _ (HG.out.below (one_new w _) H0.out)).mono ?_
    rintro e0 w1 ⟨rfl, hb1⟩
    have x1 := (hb1.cell (p := ⟨w.heap.size, 0, none⟩) (by simp)).trans ((cell_of_row _ _ 0 _ 23 (0, 0) (heap_alloc_new _ _)).trans rfl)
    have x2 := (hb1.cell (p := ⟨w.heap.size, 1, none⟩) (by simp)).trans ((cell_of_row _ _ 1 _ 23 (0, 0) (heap_alloc_new _ _)).trans rfl)
    have B1 := show Below w.heap.size w w1 from (one_new w _).trans (hb1.mono (by simp))
    have R0 := hide (show DI w w1 from ⟨B1, HG.out.below B1 H0.out⟩)
    clear hb1 B1 HG H0
    go_wp2_with fail
    refine (k1.out _ R0.out).mono ?_
    rintro e0 v1 ⟨rfl, rfl, -⟩
    clear k1
    go_wp2_with fail
    refine (k2.out _ R0.out).mono ?_
    rintro e0 v2 ⟨rfl, rfl, -⟩
    clear k2
    have y1 : v2.cell? ⟨w.heap.size, 0, none⟩ = some (.int .i64 a) := x1
    have y2 : v2.cell? ⟨w.heap.size, 1, none⟩ = some (.int .i64 b) := x2
    clear x1 x2
    have qf := fun z m => quiet_fits R0.out t z m
    go_wp2_with fail
    have hn := HN.out
    have hF1 := HF1.out
    go_quiet ((go_at_call 21; exact qf _ _))
    have R1 := hide (R0.out.drewN nq)
    have z2 : (v2.drewN nq).cell? ⟨w.heap.size, 1, none⟩ = some (.int .i64 b) := y2
    clear R0 qf y1 y2 hn hF1 HN HF1
    generalize (v2.drewN nq) = W2 at *
    go_wp2_with fail
    refine (k3.out _ R1.out).mono ?_
    rintro e0 v3 ⟨rfl, rfl, -⟩
    clear k3 z2
    go_wp2_with fail
    refine (k4.out _ R1.out).mono ?_
    rintro e0 v4 ⟨rfl, r4⟩
    have R2 := hide r4
    clear k4 r4 R1
    rcases E5.out with h5 | h5 | ⟨h5, h6, h7⟩
    · injection h5 with h5a h5b
      subst h5a h5b
      clear E5 c6
      go_wp2
      go_ret
      exact ⟨rfl, R2.out.1⟩
    · injection h5 with h5a h5b
      subst h5a h5b
      clear E5 c6
      go_wp2
      go_ret
      exact ⟨rfl, R2.out.1⟩
    · have h5' : g = 0 := h5
      have h6' : h = 0 := h6
      have h7' : fitB o r = true := h7
      subst h5' h6'
      clear h5 h6 h7 E5
      have k7 := hide (fits_DI w o r _ h7')
      clear h7'
      go_wp2_with fail
      refine (c6 _).mono ?_
      rintro e0 v5 ⟨rfl, hb5⟩
      have R3 := hide (R2.out.step hb5)
      clear c6 hb5 R2
      go_wp2_with fail
      refine (k7.out _ R3.out).mono ?_
      rintro e0 v6 ⟨rfl, rfl, -⟩
      clear k7
      go_wp2
      go_ret
      exact ⟨rfl, R3.out.1⟩
end Go.Proofs.YtffeigdgleohlaaDoor
