/- The walk of the law MacBack. -/
import Derived.Test.YtaefnkaenhmekaaDoorOpenW
namespace Go.Proofs.YtaefnkaenhmekaaDoor
open Go.RowKit
theorem take_text (t : ByteArray) (n : Nat) : (t.extract 0 n).data.toList = t.data.toList.take n := by
  rw [ByteArray.data_extract, Array.toList_extract, List.extract_eq_take_drop]
  rfl
theorem text_ext {a b : ByteArray} (h : a.data.toList = b.data.toList) : a = b := ByteArray.ext (Array.toList_inj.1 h)
theorem join_list (a b : ByteArray) : (a ++ b).data.toList = a.data.toList ++ b.data.toList := by simp [ByteArray.data_append]
theorem join_size (a b : ByteArray) : (a ++ b).size = a.size + b.size := by rw [← text_len, join_list, List.length_append, text_len, text_len]
theorem head_join (m t : ByteArray) (h : t.size = 32) : headS (m ++ t) = m := by
  apply text_ext
  unfold headS
  rw [take_text, join_size, h, Nat.add_sub_cancel, join_list, List.take_left' (text_len m)]
theorem tail_join (m t : ByteArray) (h : t.size = 32) : tailS (m ++ t) = t := by
  apply text_ext
  unfold tailS
  rw [drop_text, join_size, h, Nat.add_sub_cancel, join_list, List.drop_left' (text_len m)]
theorem openE_seal (k m : ByteArray) : openE k (m ++ tagS k m) = 0 := by
  have h := tagS_size k m
  unfold openE checkE
  rw [if_neg (by rw [join_size, h]; omega), head_join _ _ h, tail_join _ _ h, if_pos rfl]
theorem openA_seal (k m : ByteArray) : openA k (m ++ tagS k m) = m := by
  unfold openA
  rw [if_pos (openE_seal k m), head_join _ _ (tagS_size k m)]
set_option maxRecDepth 100000 in
set_option maxHeartbeats 1600000 in
theorem back_any (k m o : ByteArray) (hk : k.size ≤ 140737488351232) (hm : m.size ≤ 140737488351232) (ho : o.size ≤ 140737488351232) (w : World) (hTab : Tab w) (h0 : 0 < w.heap.size) :
    Calls Tryd.prog 5 #[.string k, .string m, .string o] w fun e w' => e = .returned (.bool true) ∧ Below w.heap.size w w' := by
  have HT : Hid (Tab w) := hTab
  have c0 := works_any w hTab h0
  have c1 := fun W hT h0 => seal_any k m (by omega) (by omega) W hT h0
  have hs : (m ++ tagS k m).size = m.size + 32 := by rw [join_size, tagS_size]
  have c2 := fun W hT h0 => open_any k (m ++ tagS k m) (by omega) (by omega) W hT h0
  rw [openE_seal, openA_seal] at c2
  generalize m ++ tagS k m = s at *
  have c3 := fun W hT h0 => seal_any o s (by omega) (by omega) W hT h0
  have ht : (s ++ tagS o s).size = m.size + 64 := by rw [join_size, tagS_size]; omega
  have c4 := fun W hT h0 => open_any o (s ++ tagS o s) (by omega) (by omega) W hT h0
  rw [openE_seal, openA_seal] at c4
  generalize s ++ tagS o s = t at *
  have i1 : (s.size : Int) = (m.size : Int) + 32 := by omega
  have i2 : (m.size : Int) ≤ 140737488351232 := by omega
  clear hTab ht hs
  go_enter Tryd.func5, Tryd.ntmps5
  go_wp2_with fail
  refine c0.mono ?_
  rintro e w1 ⟨rfl, b1⟩
  have z1 := b1.size
  clear c0
  go_wp2_with fail
  refine (c1 w1 (HT.out.below b1 h0) (by omega)).mono ?_
  rintro e w2 ⟨rfl, hb2⟩
  have b2 : Below w.heap.size w w2 := b1.trans (hb2.mono z1)
  have z2 := b2.size
  clear c1 hb2 b1 z1
  go_wp2_with fail
  refine (c2 w2 (HT.out.below b2 h0) (by omega)).mono ?_
  rintro e w3 ⟨rfl, hb3⟩
  have b3 : Below w.heap.size w w3 := b2.trans (hb3.mono z2)
  have z3 := b3.size
  clear c2 hb3 b2 z2
  go_wp2_with fail
  refine (c3 w3 (HT.out.below b3 h0) (by omega)).mono ?_
  rintro e w4 ⟨rfl, hb4⟩
  have b4 : Below w.heap.size w w4 := b3.trans (hb4.mono z3)
  have z4 := b4.size
  clear c3 hb4 b3 z3
  go_wp2_with fail
  refine (c4 w4 (HT.out.below b4 h0) (by omega)).mono ?_
  rintro e w5 ⟨rfl, hb5⟩
  have b5 : Hid (Below w.heap.size w w5) := b4.trans (hb5.mono z4)
  clear c4 hb5 b4 z4
  go_wp2
  go_ret
  exact ⟨rfl, b5⟩
end Go.Proofs.YtaefnkaenhmekaaDoor
