/- The walk of NumOnes. -/
import Derived.Test.YtffeigdgleohlaaDoorWorksW
import Derived.Test.YtffeigdgleohlaaDoorConvW
namespace Go.Proofs.YtffeigdgleohlaaDoor
open Go.RowKit
set_option maxRecDepth 100000 in
set_option maxHeartbeats 3200000 in
theorem ones_row (op t n : Int) (_ : (Lit.int .i64 op).wf = true) (_ : (Lit.int .i64 t).wf = true) (_ : (Lit.int .i64 n).wf = true) (w : World) (hg : Glo w) :
    Calls Tryd.prog 4 #[.int .i64 op, .int .i64 t, .int .i64 n] w fun e w' => e = .returned (.bool true) ∧ Below w.heap.size w w' := by
  have HG := hide hg
  have H0 := hide hg.lt
  have c1 := one_any op t n w hg
  have c2 := fun W => oneR_any op t n W
  have c3 := fun W => wrap_any t n W
  have c4 := fun W => wrapR_any t n W
  have c5 := fun W hG => conv_any t op n W hG
  have c6 := fun W => convR_any t op n W
  have c7 := fun W hG => fits_any t n W hG
  have c8 := fun W => fitsR_any t n W
  generalize oneN op t n = p at *
  generalize wrapN t n = q at *
  generalize convN t op n = r at *
  generalize fitB t n = B at *
  obtain ⟨a1, a2⟩ := p
  obtain ⟨b1, b2⟩ := q
  obtain ⟨d1, d2⟩ := r
  clear hg
  go_enter Tryd.func4, Tryd.ntmps4
  go_wp2_with fail
  refine c1.mono ?_
  rintro e0 w1 ⟨rfl, hb1⟩
  have B1 := hide hb1
  have G1 := hide (HG.out.below hb1 H0.out)
  clear hb1 c1
  go_wp2_with fail
  refine (c2 _).mono ?_
  rintro e0 w2 ⟨rfl, rfl⟩
  clear c2
  go_wp2_with fail
  refine (c3 _).mono ?_
  rintro e0 w3 ⟨rfl, rfl⟩
  clear c3
  go_wp2_with fail
  refine (c4 _).mono ?_
  rintro e0 w4 ⟨rfl, rfl⟩
  clear c4
  go_wp2_with fail
  refine (c5 _ G1.out).mono ?_
  rintro e0 w5 ⟨rfl, rfl⟩
  clear c5
  go_wp2_with fail
  refine (c6 _).mono ?_
  rintro e0 w6 ⟨rfl, rfl⟩
  clear c6
  go_wp2_with fail
  refine (c7 _ G1.out).mono ?_
  rintro e0 w7 ⟨rfl, rfl⟩
  clear c7
  go_wp2_with fail
  refine (c8 _).mono ?_
  rintro e0 w8 ⟨rfl, rfl⟩
  clear c8
  go_wp2_with fail
  refine (works_any _ G1.out).mono ?_
  rintro e0 w9 ⟨rfl, hb9⟩
  have B9 := hide (B1.out.trans (hb9.mono B1.out.size))
  clear hb9 B1 HG H0 G1
  go_wp2
  go_ret
  exact ⟨rfl, B9.out⟩
end Go.Proofs.YtffeigdgleohlaaDoor
