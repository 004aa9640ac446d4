/- The walk of NumTwos. -/
import Derived.Test.YtffeigdgleohlaaDoorWorksW
namespace Go.Proofs.YtffeigdgleohlaaDoor
open Go.RowKit
theorem one_new (w : World) (o : Obj) : Below w.heap.size w (w.alloc o) := (Below.refl _ _).alloc (Nat.le_refl _) _
set_option maxRecDepth 100000 in
set_option maxHeartbeats 3200000 in
theorem twos_row (op t a b : Int) (_ : (Lit.int .i64 op).wf = true) (_ : (Lit.int .i64 t).wf = true) (_ : (Lit.int .i64 a).wf = true) (_ : (Lit.int .i64 b).wf = true) (w : World) (hg : Glo w) :
    Calls Tryd.prog 3 #[.int .i64 op, .int .i64 t, .agg #[.int .i64 a, .int .i64 b]] w fun e w' => e = .returned (.bool true) ∧ Below w.heap.size w w' := by
  have HG := hide hg
  have H0 := hide hg.lt
  have c1 := fun W hG => two_any op t a b W hG
  have c2 := fun W => twoR_any op t a b W
  have c3 := fun W => res_any op t W
  have c4 := fun W => resR_any op t W
  generalize twoN op t a b = p at *
  generalize resN op t = q at *
  obtain ⟨n, e⟩ := p
  obtain ⟨k, f⟩ := q
  clear hg
  go_enter Tryd.func3, Tryd.ntmps3
  go_wp2_with fail
  refine (c1 _ (HG.out.below (one_new w _) H0.out)).mono ?_
  rintro e0 w1 ⟨rfl, hb1⟩
  have x1 := (hb1.cell (p := ⟨w.heap.size, 0, none⟩) (by simp)).trans ((cell_of_row _ _ 0 _ 23 (0, 0) (heap_alloc_new _ _)).trans rfl)
  have x2 := (hb1.cell (p := ⟨w.heap.size, 1, none⟩) (by simp)).trans ((cell_of_row _ _ 1 _ 23 (0, 0) (heap_alloc_new _ _)).trans rfl)
  have B1 := hide (show Below w.heap.size w w1 from (one_new w _).trans (hb1.mono (by simp)))
  clear hb1 c1
  go_wp2_with fail
  refine (c2 _).mono ?_
  rintro e0 w2 ⟨rfl, rfl⟩
  clear c2 x1 x2
  go_wp2_with fail
  refine (c3 _).mono ?_
  rintro e0 w3 ⟨rfl, hb3⟩
  have B3 := hide (B1.out.trans (hb3.mono B1.out.size))
  clear hb3 c3 B1
  go_wp2_with fail
  refine (c4 _).mono ?_
  rintro e0 w4 ⟨rfl, rfl⟩
  clear c4
  go_wp2_with fail
  refine (names_any _).mono ?_
  rintro e0 w5 ⟨rfl, rfl⟩
  go_wp2_with fail
  refine (works_any _ (HG.out.below B3.out H0.out)).mono ?_
  rintro e0 w6 ⟨rfl, hb6⟩
  have B6 := hide (B3.out.trans (hb6.mono B3.out.size))
  clear hb6 B3 HG H0
  go_wp2
  go_ret
  exact ⟨rfl, B6.out⟩
end Go.Proofs.YtffeigdgleohlaaDoor
