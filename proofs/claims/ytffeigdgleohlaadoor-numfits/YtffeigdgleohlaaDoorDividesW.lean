/- The walk of NumDivides. -/
import Derived.Test.YtffeigdgleohlaaDoorTwosW
import Derived.Test.YtffeigdgleohlaaDoorRingsW
namespace Go.Proofs.YtffeigdgleohlaaDoor
open Go.RowKit
theorem div_facts {T A B : Int} (hT : T = 2 ∨ T = 3) (hA : fitB T A = true) (hB : fitB T B = true) (h0 : ¬ B = 0) :
    ∃ q p r, twoN 4 T A B = (q, 0) ∧ twoN 5 T A B = (r, 0) ∧ twoN 3 T q B = (p, 0) ∧ twoN 1 T p r = (A, 0) ∧ wrap64 (-r) = -r ∧ wrap64 (-B) = -B ∧ max r (-r) < max B (-B) ∧ (¬ r = 0 → ((r < 0) ↔ (A < 0))) := by
  obtain ⟨ht, h1⟩ := whole_ty hT
  have f := fun n => fit_wr ht n
  have hr : fitB T (A.tmod B) = true := rem_fit h1 hB h0
  refine ⟨wrN T (A.tdiv B), wrN T (wrN T (A.tdiv B) * B), A.tmod B, two_div hT hA hB h0, ?_, two_mul hT (f _) hB, ?_, w_neg (R_of_fit hr), w_neg (R_of_fit hB), tmod_abs A B h0, fun h => tmod_sign A B h⟩
  · rw [two_rem hT hA hB h0, wr_fit hr]
  · rw [two_add hT (f _) hr]
    have := div_back (b := B) h1 hA
    rw [wr_fit hr] at this
    rw [this]
/-- what stands behind each call -/
def DI (w W : World) : Prop := Below w.heap.size w W ∧ Glo W
theorem DI.step {w W W' : World} (h : DI w W) (hb : Below W.heap.size W W') : DI w W' := ⟨h.1.trans (hb.mono h.1.size), h.2.below hb h.2.lt⟩
theorem DI.drewN {w W : World} (h : DI w W) (n : Nat) : DI w (W.drewN n) := ⟨below_drewN h.1 n, fun k hk => h.2 k hk⟩
theorem two_DI (w : World) (op t a b : Int) (r : Int × Int) (hr : twoN op t a b = r) (W : World) (h : DI w W) :
    Calls Tryd.prog 9 #[.int .i64 op, .int .i64 t, .int .i64 a, .int .i64 b] W fun e w' => e = .returned (.tuple #[.int .i64 r.1, .int .i64 r.2]) ∧ DI w w' := by
  rw [← hr]
  exact (two_any op t a b W h.2).mono fun e w' hh => ⟨hh.1, h.step hh.2⟩
theorem one_DI (w : World) (op t a : Int) (r : Int × Int) (hr : oneN op t a = r) (W : World) (h : DI w W) :
    Calls Tryd.prog 15 #[.int .i64 op, .int .i64 t, .int .i64 a] W fun e w' => e = .returned (.tuple #[.int .i64 r.1, .int .i64 r.2]) ∧ DI w w' := by
  rw [← hr]
  exact (one_any op t a W h.2).mono fun e w' hh => ⟨hh.1, h.step hh.2⟩
theorem quiet_wr {T : Int} (ht : tyB T = true) (n : Int) (W : World) (m : Nat) : Calls Tryd.prog 24 #[.int .i64 T, .int .i64 n] (W.drewN m) fun e w'' => e = .returned (.int .i64 (wrN T n)) ∧ ∃ q, w'' = W.drewN q := by
  have h := quiet_wrapL T n W m
  rw [wrapN_ty ht] at h
  exact h
set_option maxRecDepth 100000 in
set_option maxHeartbeats 3200000 in
theorem divides_row (t a b : Int) (_ : (Lit.int .i64 t).wf = true) (_ : (Lit.int .i64 a).wf = true) (_ : (Lit.int .i64 b).wf = true) (w : World) (hg : Glo w) :
    Calls Tryd.prog 7 #[.int .i64 t, .agg #[.int .i64 a, .int .i64 b]] w fun e w' => e = .returned (.bool true) ∧ Below w.heap.size w w' := by
  have HG := hide hg
  have H0 := hide hg.lt
  have ck := kind_any t
  have hT := kind_whole t
  generalize kindN t = T at *
  have ht := (whole_ty hT).1
  have cq := fun n W m => quiet_wr ht n W m
  have hA := fit_wr ht a
  have hB := fit_wr ht b
  have HT := hide hT
  have HA := hide hA
  have HB := hide hB
  clear hT hA hB ht hg
  go_enter Tryd.func7, Tryd.ntmps7
  go_wp2_with fail
  refine (works_any _ (HG.out.below (one_new w _) H0.out)).mono ?_
  rintro e0 w1 ⟨rfl, hb1⟩
  have x1 := (hb1.cell (p := ⟨w.heap.size, 0, none⟩) (by simp)).trans ((cell_of_row _ _ 0 _ 23 (0, 0) (heap_alloc_new _ _)).trans rfl)
  have x2 := (hb1.cell (p := ⟨w.heap.size, 1, none⟩) (by simp)).trans ((cell_of_row _ _ 1 _ 23 (0, 0) (heap_alloc_new _ _)).trans rfl)
  have B1 := show Below w.heap.size w w1 from (one_new w _).trans (hb1.mono (by simp))
  have R0 := hide (show DI w w1 from ⟨B1, HG.out.below B1 H0.out⟩)
  clear hb1 B1 HG H0
  go_wp2_with fail
  refine (ck _).mono ?_
  rintro e0 w2 ⟨rfl, rfl⟩
  clear ck
  go_wp2_with fail
  go_quiet ((go_at_call 24; exact cq _ _ _))
  have R1 := hide (R0.out.drewN nq)
  clear R0 cq x1 x2
  generalize (w2.drewN nq) = W2 at *
  generalize wrN T a = A at *
  generalize wrN T b = B at *
  by_cases h0 : B = 0
  · subst h0
    have k4 := hide (two_DI w 4 T A 0 _ (two_zero HT.out HA.out 4 (.inl rfl)))
    have k5 := hide (two_DI w 5 T A 0 _ (two_zero HT.out HA.out 5 (.inr rfl)))
    clear HT HA HB
    go_wp2_with fail
    refine (k4.out _ R1.out).mono ?_
    rintro e0 v1 ⟨rfl, r1⟩
    have R2 := hide r1
    clear r1 R1 k4
    go_wp2_with fail
    refine (k5.out _ R2.out).mono ?_
    rintro e0 v2 ⟨rfl, r2⟩
    have R3 := hide r2
    clear r2 R2 k5
    go_wp2
    go_ret
    exact ⟨rfl, R3.out.1⟩
  · obtain ⟨q, p, r, e4, e5, e3, e1, n1, n2, hmax, hsg⟩ := div_facts HT.out HA.out HB.out h0
    have k4 := hide (two_DI w 4 T A B _ e4)
    have k5 := hide (two_DI w 5 T A B _ e5)
    have k3 := hide (two_DI w 3 T q B _ e3)
    have k1 := hide (two_DI w 1 T p r _ e1)
    have m1 : ∀ (ts : Array TypeId) (t : TypeId) (W : World), (Builtin.max_ ts t #[.int .i64 r, .int .i64 (-r)]).run Tryd.prog W = .ok (.int .i64 (max r (-r))) W := fun ts t W => by rw [run_max_int2]; congr 2; omega
    have m2 : ∀ (ts : Array TypeId) (t : TypeId) (W : World), (Builtin.max_ ts t #[.int .i64 B, .int .i64 (-B)]).run Tryd.prog W = .ok (.int .i64 (max B (-B))) W := fun ts t W => by rw [run_max_int2]; congr 2; omega
    generalize max r (-r) = M at *
    generalize max B (-B) = N at *
    obtain ⟨r', hr'⟩ : ∃ r', r' = -r := ⟨_, rfl⟩
    obtain ⟨B', hB'⟩ : ∃ B', B' = -B := ⟨_, rfl⟩
    rw [← hr'] at m1
    rw [← hB'] at m2
    have n1' : wrap64 (-r) = r' := by rw [n1, hr']
    have n2' : wrap64 (-B) = B' := by rw [n2, hB']
    clear n1 n2 hr' hB'
    have hs : ((r == 0) = true) ∨ (¬ r = 0 ∧ r < 0 ∧ A < 0) ∨ (¬ r = 0 ∧ ¬ r < 0 ∧ ¬ A < 0) := by
      by_cases hr : r = 0
      · exact .inl (by rw [hr]; rfl)
      · by_cases hl : r < 0
        · exact .inr (.inl ⟨hr, hl, (hsg hr).1 hl⟩)
        · exact .inr (.inr ⟨hr, hl, fun h => hl ((hsg hr).2 h)⟩)
    clear HT HA HB e1 e3 e4 e5 hsg
    have hs' := hide hs
    clear hs
    go_wp2_with fail
    refine (k4.out _ R1.out).mono ?_
    rintro e0 v1 ⟨rfl, r1⟩
    have R2 := hide r1
    clear r1 R1 k4
    go_wp2_with fail
    refine (k5.out _ R2.out).mono ?_
    rintro e0 v2 ⟨rfl, r2⟩
    have R3 := hide r2
    clear r2 R2 k5
    go_wp2_with fail
    refine (k3.out _ R3.out).mono ?_
    rintro e0 v3 ⟨rfl, r3⟩
    have R4 := hide r3
    clear r3 R3 k3
    go_wp2_with fail
    refine (k1.out _ R4.out).mono ?_
    rintro e0 v4 ⟨rfl, r4⟩
    have R5 := hide r4
    clear r4 R4 k1
    rcases hs'.out with hr | ⟨hr, hl, hA⟩ | ⟨hr, hl, hA⟩
    · clear hs'
      go_wp2
      go_ret
      exact ⟨ret_bool (by first | rfl | (rw [hr]; rfl)), R5.out.1⟩
    · clear hs'
      go_wp2
      go_ret
      exact ⟨ret_bool (by first | rfl | (rw [decide_eq_true hl, decide_eq_true hA]; simp)), R5.out.1⟩
    · have HL := hide hl
      have HA2 := hide hA
      clear hs'
      go_wp2
      go_ret
      exact ⟨ret_bool (by first | rfl | (rw [decide_eq_false (Int.not_lt.2 HL.out), decide_eq_false (Int.not_lt.2 HA2.out)]; simp)), R5.out.1⟩
end Go.Proofs.YtffeigdgleohlaaDoor
