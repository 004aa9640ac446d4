/- The walk of the law ShaSums. -/
import Derived.Test.YtndpomcfoogchaaDoorWorks
import Derived.Test.YtndpomcfoogchaaDoorRSumW
import Derived.Test.YtndpomcfoogchaaDoorRHexW
namespace Go.Proofs.YtndpomcfoogchaaDoor
open Go.RowKit
set_option maxHeartbeats 800000 in
theorem names_any (w : World) : Calls Tryd.prog 7 #[] w fun e w' => e = .returned (.bool true) ∧ w' = w := by
  go_enter Tryd.func7, Tryd.ntmps7
  go_wp2
  go_ret
  exact ⟨rfl, rfl⟩
set_option maxRecDepth 100000 in
set_option maxHeartbeats 1600000 in
theorem sums_any (s : ByteArray) (hn : s.size ≤ 1048576) (w : World) (hTab : Tab w) (h0 : 0 < w.heap.size) :
    Calls Tryd.prog 3 #[.string s] w fun e w' => e = .returned (.bool true) ∧ Below w.heap.size w w' := by
  have HT : Hid (Tab w) := hTab
  have hs := sum_any s (by omega) w hTab h0
  have hrs := rsum_any s hn
  have hx := hex_any s hn
  have hrx := rhex_any s hn
  clear hTab
  generalize (⟨(shaB s.data.toList).toArray⟩ : ByteArray) = S at *
  generalize (⟨(hexL s.data.toList).toArray⟩ : ByteArray) = X at *
  go_enter Tryd.func3, Tryd.ntmps3
  go_wp2_with fail
  refine (names_any _).mono ?_
  rintro e w1 ⟨rfl, hw1⟩
  rw [hw1]
  clear hw1
  go_wp2_with fail
  refine hs.mono ?_
  rintro e w2 ⟨rfl, hb2⟩
  go_wp2_with fail
  refine (hrs _).mono ?_
  rintro e w3 ⟨rfl, hb3⟩
  have b3 : Below w.heap.size w w3 := hb2.trans (hb3.mono hb2.size)
  clear hb2 hb3 hs hrs
  go_wp2_with fail
  refine (hx _).mono ?_
  rintro e w4 ⟨rfl, hb4⟩
  have b4 : Below w.heap.size w w4 := b3.trans (hb4.mono b3.size)
  clear hb4 b3 hx
  go_wp2_with fail
  refine (hrx _).mono ?_
  rintro e w5 ⟨rfl, hb5⟩
  have b5 : Below w.heap.size w w5 := b4.trans (hb5.mono b4.size)
  clear hb5 b4 hrx
  have z5 := b5.size
  have hwk := works_any w5 (HT.out.below b5 h0) (by omega)
  have B5 : Hid (Below w.heap.size w w5) := b5
  clear b5
  go_wp2_with fail
  refine hwk.mono ?_
  rintro e w6 ⟨rfl, hb6⟩
  have b6 : Hid (Below w.heap.size w w6) := B5.out.trans (hb6.mono z5)
  clear hb6 hwk
  go_wp2
  go_ret
  exact ⟨rfl, b6⟩
end Go.Proofs.YtndpomcfoogchaaDoor
