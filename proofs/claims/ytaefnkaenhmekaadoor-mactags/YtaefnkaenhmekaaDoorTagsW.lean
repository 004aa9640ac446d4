/- The walk of the law MacTags. -/
import Derived.Test.YtaefnkaenhmekaaDoorRTagW
namespace Go.Proofs.YtaefnkaenhmekaaDoor
open Go.RowKit
set_option maxRecDepth 100000 in
set_option maxHeartbeats 1600000 in
theorem tags_any (k m g : ByteArray) (hk : k.size ≤ 140737488351232) (hm : m.size ≤ 140737488351232) (hg : g.size ≤ 140737488351232) (w : World) (hTab : Tab w) (h0 : 0 < w.heap.size) :
    Calls Tryd.prog 3 #[.string k, .string m, .string g] w fun e w' => e = .returned (.bool true) ∧ Below w.heap.size w w' := by
  have HT : Hid (Tab w) := hTab
  have c0 := fun W hT h0 => works_any W hT h0
  have c1 := rtag_any k m (by omega) (by omega) w
  have c2 : ∀ W, Tab W → 0 < W.heap.size → Calls Tryd.prog 9 #[.string k, .string m] W fun e w' => e = .returned (.string (tagS k m)) ∧ Below W.heap.size W w' := fun W hT h0 => tag_any k m (by omega) (by omega) W hT h0
  have c3 := fun W hT h0 => make_any k m (by omega) (by omega) W hT h0
  have c4 := fun W => equal_any m g (by omega) (by omega) W
  have hbe := beq_text m g
  have c5 : ∀ W, Tab W → 0 < W.heap.size → Calls Tryd.prog 12 #[.string k, .string m, .string (tagS k m)] W fun e w' => e = .returned (.int .i64 0) ∧ Below W.heap.size W w' := fun W hT h0 => by
    have := check_any k m (tagS k m) (by omega) (by omega) (by rw [tagS_size]; omega) W hT h0
    rwa [show checkE k m (tagS k m) = 0 from by unfold checkE; rw [if_pos rfl]] at this
  have c6 := fun W hT h0 => check_any k m g (by omega) (by omega) (by omega) W hT h0
  have c7 := fun W => rcheck_any k m g (by omega) (by omega) W
  generalize tagS k m = T at *
  generalize checkE k m g = X at *
  generalize decide (m = g) = b at *
  clear hTab
  go_enter Tryd.func3, Tryd.ntmps3
  go_wp2_with fail
  refine c1.mono ?_
  rintro e w1 ⟨rfl, b1⟩
  have z1 := b1.size
  clear c1
  go_wp2_with fail
  refine (c2 w1 (HT.out.below b1 h0) (by omega)).mono ?_
  rintro e w2 ⟨rfl, hb2⟩
  have b2 : Below w.heap.size w w2 := b1.trans (hb2.mono z1)
  have z2 := b2.size
  clear c2 hb2 b1 z1
  go_wp2_with fail
  refine (c3 w2 (HT.out.below b2 h0) (by omega)).mono ?_
  rintro e w3 ⟨rfl, hb3⟩
  have b3 : Below w.heap.size w w3 := b2.trans (hb3.mono z2)
  have z3 := b3.size
  clear c3 hb3 b2 z2
  go_wp2_with fail
  refine (c4 w3).mono ?_
  rintro e w4 ⟨rfl, hb4⟩
  have b4 : Below w.heap.size w w4 := b3.trans (hb4.mono z3)
  have z4 := b4.size
  clear c4 hb4 b3 z3
  go_wp2_with fail
  refine (c5 w4 (HT.out.below b4 h0) (by omega)).mono ?_
  rintro e w5 ⟨rfl, hb5⟩
  have b5 : Below w.heap.size w w5 := b4.trans (hb5.mono z4)
  have z5 := b5.size
  clear c5 hb5 b4 z4
  go_wp2_with fail
  refine (c6 w5 (HT.out.below b5 h0) (by omega)).mono ?_
  rintro e w6 ⟨rfl, hb6⟩
  have b6 : Below w.heap.size w w6 := b5.trans (hb6.mono z5)
  have z6 := b6.size
  clear c6 hb6 b5 z5
  go_wp2_with fail
  refine (c7 w6).mono ?_
  rintro e w7 ⟨rfl, hb7⟩
  have b7 : Below w.heap.size w w7 := b6.trans (hb7.mono z6)
  have z7 := b7.size
  clear c7 hb7 b6 z6
  go_wp2_with fail
  refine (c0 w7 (HT.out.below b7 h0) (by omega)).mono ?_
  rintro e w8 ⟨rfl, hb8⟩
  have b8 : Hid (Below w.heap.size w w8) := b7.trans (hb8.mono z7)
  clear c0 hb8 b7 z7
  go_wp2
  go_ret
  exact ⟨rfl, b8⟩
end Go.Proofs.YtaefnkaenhmekaaDoor
