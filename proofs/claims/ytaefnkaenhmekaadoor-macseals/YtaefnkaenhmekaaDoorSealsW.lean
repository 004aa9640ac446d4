/- The walk of the law MacSeals. -/
import Derived.Test.YtaefnkaenhmekaaDoorRTagW
namespace Go.Proofs.YtaefnkaenhmekaaDoor
open Go.RowKit
set_option maxRecDepth 100000 in
set_option maxHeartbeats 1600000 in
theorem seals_any (k m s : ByteArray) (hk : k.size ≤ 140737488351232) (hm : m.size ≤ 140737488351232) (hs : s.size ≤ 140737488351232) (w : World) (hTab : Tab w) (h0 : 0 < w.heap.size) :
    Calls Tryd.prog 4 #[.string k, .string m, .string s] w fun e w' => e = .returned (.bool true) ∧ Below w.heap.size w w' := by
  have HT : Hid (Tab w) := hTab
  have c0 := fun W hT h0 => works_any W hT h0
  have c1 := open_any k s (by omega) (by omega) w hTab h0
  have c2 := fun W => ropen_any k s (by omega) (by omega) W
  have c3 := fun W hT h0 => seal_any k m (by omega) (by omega) W hT h0
  have c4 := fun W => rtag_any k m (by omega) (by omega) W
  have a1 : ∀ W : World, (Op.stringOp .add m (tagS k m)).run Tryd.prog W = .ok (.string (m ++ tagS k m)) W := fun W => run_string_add_sum W _ _ (by rw [tagS_size]; omega)
  generalize m ++ tagS k m = S at *
  generalize tagS k m = T at *
  generalize openA k s = A at *
  generalize openE k s = E at *
  clear hTab
  go_enter Tryd.func4, Tryd.ntmps4
  go_wp2_with fail
  refine c1.mono ?_
  rintro e w1 ⟨rfl, b1⟩
  have z1 := b1.size
  clear c1
  go_wp2_with fail
  refine (c2 w1).mono ?_
  rintro e w2 ⟨rfl, hb2⟩
  have b2 : Below w.heap.size w w2 := b1.trans (hb2.mono z1)
  have z2 := b2.size
  clear c2 hb2 b1 z1
  go_wp2_with fail
  refine (c3 w2 (HT.out.below b2 h0) (by omega)).mono ?_
  rintro e w3 ⟨rfl, hb3⟩
  have b3 : Below w.heap.size w w3 := b2.trans (hb3.mono z2)
  have z3 := b3.size
  clear c3 hb3 b2 z2
  go_wp2_with fail
  refine (c4 w3).mono ?_
  rintro e w4 ⟨rfl, hb4⟩
  have b4 : Below w.heap.size w w4 := b3.trans (hb4.mono z3)
  have z4 := b4.size
  clear c4 hb4 b3 z3
  go_wp2_with fail
  refine (c0 w4 (HT.out.below b4 h0) (by omega)).mono ?_
  rintro e w5 ⟨rfl, hb5⟩
  have b5 : Hid (Below w.heap.size w w5) := b4.trans (hb5.mono z4)
  clear c0 hb5 b4 z4
  go_wp2
  go_ret
  exact ⟨rfl, b5⟩
end Go.Proofs.YtaefnkaenhmekaaDoor
