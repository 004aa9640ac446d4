/- The contract of the law's works: the chapter's two examples hold. -/
import Derived.Test.YtndpomcfoogchaaDoorEx
import Derived.Test.YtndpomcfoogchaaDoorHexW
namespace Go.Proofs.YtndpomcfoogchaaDoor
open Go.RowKit
theorem sum_lit (l : List UInt8) (hn : l.length < 1152921504606846976) (w : World) (hTab : Tab w) (h0 : 0 < w.heap.size) :
    Calls Tryd.prog 8 #[.string ⟨l.toArray⟩] w fun e w' => e = .returned (.string ⟨(shaB l).toArray⟩) ∧ Below w.heap.size w w' := by
  have := sum_any ⟨l.toArray⟩ (by show l.toArray.size < _; simpa using hn) w hTab h0
  simpa using this
theorem hex_lit (l : List UInt8) (hn : l.length ≤ 1048576) (w : World) :
    Calls Tryd.prog 10 #[.string ⟨l.toArray⟩] w fun e w' => e = .returned (.string ⟨(hexL l).toArray⟩) ∧ Below w.heap.size w w' := by
  have := hex_any ⟨l.toArray⟩ (by show l.toArray.size ≤ _; simpa using hn) w
  simpa using this
set_option maxRecDepth 100000 in
set_option maxHeartbeats 800000 in
theorem works_any (w : World) (hTab : Tab w) (h0 : 0 < w.heap.size) :
    Calls Tryd.prog 12 #[] w fun e w' => e = .returned (.bool true) ∧ Below w.heap.size w w' := by
  have HT : Hid (Tab w) := hTab
  have h1 : Hid (hexL (shaB [97, 98, 99]) = _) := ex_abc
  have h2 : Hid (hexL (shaB []) = _) := ex_nil
  have l1 : (shaB [97, 98, 99]).length ≤ 1048576 := by rw [shaB_length]; omega
  have l2 : (shaB []).length ≤ 1048576 := by rw [shaB_length]; omega
  have c1 := fun W hT h0 => sum_lit [97, 98, 99] (by simp) W hT h0
  have c2 := fun W hT h0 => sum_lit [] (by simp) W hT h0
  have d1 := fun W => hex_lit (shaB [97, 98, 99]) l1 W
  have d2 := fun W => hex_lit (shaB []) l2 W
  rw [h1.out] at d1
  rw [h2.out] at d2
  generalize shaB [97, 98, 99] = A at *
  generalize shaB [] = B at *
  clear hTab h1 h2 l1 l2
  go_enter Tryd.func12, Tryd.ntmps12
  go_wp2_with fail
  refine (c1 _ HT.out h0).mono ?_
  rintro e w1 ⟨rfl, hb1⟩
  have z1 := hb1.size
  go_wp2_with fail
  refine (d1 _).mono ?_
  rintro e w2 ⟨rfl, hb2⟩
  have z2 := hb2.size
  have b2 : Below w.heap.size w w2 := hb1.trans (hb2.mono z1)
  go_wp2_with fail
  refine (c2 _ (HT.out.below b2 h0) (by omega)).mono ?_
  rintro e w3 ⟨rfl, hb3⟩
  have z3 := hb3.size
  have b3 : Below w.heap.size w w3 := b2.trans (hb3.mono (by omega))
  go_wp2_with fail
  refine (d2 _).mono ?_
  rintro e w4 ⟨rfl, hb4⟩
  have b4 : Hid (Below w.heap.size w w4) := b3.trans (hb4.mono (by omega))
  go_wp2
  go_ret
  exact ⟨rfl, b4⟩
end Go.Proofs.YtndpomcfoogchaaDoor
