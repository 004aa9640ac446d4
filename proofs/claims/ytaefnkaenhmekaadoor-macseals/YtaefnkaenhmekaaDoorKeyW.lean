/- The contracts of mac.fit, of the closure that masks, of mac.maskedKey and of mac.Tag. -/
import Derived.Test.YtaefnkaenhmekaaDoorKey
import Derived.Test.YtaefnkaenhmekaaDoorHashW
import Derived.Deep.DeepMust
namespace Go.Proofs.YtaefnkaenhmekaaDoor
open Go.RowKit
attribute [local go_sem ↓] xor8
theorem sz46 : (Tryd.prog.info? 46).map (·.size) = some 64 := by kernel_rfl
theorem text_len (s : ByteArray) : s.data.toList.length = s.size := by rw [Array.length_toList]; rfl
theorem alloc2_at (w : World) (o1 o2 : Obj) : ((w.alloc o1).alloc o2).heap[w.heap.size]? = some o1 ∧ ((w.alloc o1).alloc o2).heap[w.heap.size + 1]? = some o2 :=
  ⟨by rw [heap_alloc_old _ _ (by simp), heap_alloc_new], by rw [show w.heap.size + 1 = (w.alloc o1).heap.size from by simp, heap_alloc_new]⟩
theorem below2 (w : World) (o1 o2 : Obj) : Below w.heap.size w ((w.alloc o1).alloc o2) := ((Below.refl _ _).alloc (Nat.le_refl _) _).alloc (by simp) _
theorem alloc2_size (w : World) (o1 o2 : Obj) : ((w.alloc o1).alloc o2).heap.size = w.heap.size + 1 + 1 := by simp
theorem alloc2_pos (w : World) (o1 o2 : Obj) : 0 < ((w.alloc o1).alloc o2).heap.size := by rw [alloc2_size]; omega
theorem zero64 : fillB 64 [] = #[Value.int .u8 0, Value.int .u8 0, Value.int .u8 0, Value.int .u8 0, Value.int .u8 0, Value.int .u8 0, Value.int .u8 0, Value.int .u8 0, Value.int .u8 0, Value.int .u8 0, Value.int .u8 0, Value.int .u8 0, Value.int .u8 0, Value.int .u8 0, Value.int .u8 0, Value.int .u8 0, Value.int .u8 0, Value.int .u8 0, Value.int .u8 0, Value.int .u8 0, Value.int .u8 0, Value.int .u8 0, Value.int .u8 0, Value.int .u8 0, Value.int .u8 0, Value.int .u8 0, Value.int .u8 0, Value.int .u8 0, Value.int .u8 0, Value.int .u8 0, Value.int .u8 0, Value.int .u8 0, Value.int .u8 0, Value.int .u8 0, Value.int .u8 0, Value.int .u8 0, Value.int .u8 0, Value.int .u8 0, Value.int .u8 0, Value.int .u8 0, Value.int .u8 0, Value.int .u8 0, Value.int .u8 0, Value.int .u8 0, Value.int .u8 0, Value.int .u8 0, Value.int .u8 0, Value.int .u8 0, Value.int .u8 0, Value.int .u8 0, Value.int .u8 0, Value.int .u8 0, Value.int .u8 0, Value.int .u8 0, Value.int .u8 0, Value.int .u8 0, Value.int .u8 0, Value.int .u8 0, Value.int .u8 0, Value.int .u8 0, Value.int .u8 0, Value.int .u8 0, Value.int .u8 0, Value.int .u8 0] := rfl
set_option maxRecDepth 100000 in
set_option maxHeartbeats 1600000 in
theorem fit_any (s : ByteArray) (hn : s.size < 1152921504606846976) (w : World) (hTab : Tab w) (h0 : 0 < w.heap.size) :
    Calls Tryd.prog 30 #[.string s] w fun e w' => e = .returned (.agg (encK (fitL s.data.toList))) ∧ Below w.heap.size w w' := by
  have HT : Hid (Tab w) := hTab
  have hsum := fun W hT h0 => sum_any s hn W hT h0
  clear hTab
  have hfit : Hid (fillB 64 (keyL s.data.toList) = encK (fitL s.data.toList)) := fillB_fit _
  have hsz : (Tryd.prog.info? 46).map (·.size) = some (encK (fitL s.data.toList)).size := by rw [encK_size, fitL_length]; exact sz46
  have hone := encK_one (fitL s.data.toList)
  have hzs : (fillB 64 []).size = (encK (fitL s.data.toList)).size := by rw [encK_size, fitL_length]; rfl
  by_cases hbig : 64 < s.size
  · have i1 : (64 : Int) < (s.size : Int) := by omega
    have hk : Hid (keyL s.data.toList = shaB s.data.toList) := by unfold Hid keyL; rw [if_pos (by rw [text_len]; exact hbig)]
    have hl : (shaB s.data.toList).length = 32 := shaB_length _
    generalize shaB s.data.toList = S at *
    generalize encK (fitL s.data.toList) = A at *
    go_enter Tryd.func30, Tryd.ntmps30
    go_wp2_with fail
    refine (hsum _ (HT.out.below (below2 w _ _) h0) (alloc2_pos w _ _)).mono ?_
    rintro e w1 ⟨rfl, hb1⟩
    obtain ⟨W2, hcp, q0, q1, hb2⟩ := fit_copy (P := Tryd.prog) w w1 32 9 3 5 ⟨S.toArray⟩ S rfl (by show S.toArray.size ≤ 64; simp [hl]) Tryd.underlying32 z5
      ((below2 w _ _).trans (hb1.mono (by rw [alloc2_size]; omega)))
      (by rw [hb1.block _ (by rw [alloc2_size]; omega)]; exact (alloc2_at w _ _).1) (by rw [hb1.block _ (by rw [alloc2_size]; omega)]; exact (alloc2_at w _ _).2)
    rw [← hk.out, hfit.out] at q1
    have hR := heap_setRow_same W2 w.heap.size _ A _ q0
    have hB : Hid (Below w.heap.size w (W2.setRow w.heap.size A)) := hb2.trans (below_setRow _ _ _ _ (by omega))
    clear hb1 hb2
    go_wp2_with (first | ((with_reducible refine at_load ?_); go_must (refine load_arm 12 46 (.tmp 3) _ _ A _ _ _ q1 Tryd.underlying46 hsz rfl ?_)) | ((with_reducible refine at_store ?_); go_must (refine store_arm 46 (.tmp 2) (.tmp 12) _ A _ _ q0 hsz hzs hone rfl rfl ?_)))
    refine bodyPost_ret (v := .agg A) ?_ rfl ⟨rfl, hB⟩
    refine results_cell_row Tryd.results30 _ _ w.heap.size 46 A (0, 0) _ ?_ hR Tryd.underlying46 rfl hsz
    rfl
  · have i1 : ¬ (64 : Int) < (s.size : Int) := by omega
    have hk : Hid (keyL s.data.toList = s.data.toList) := by unfold Hid keyL; rw [if_neg (by rw [text_len]; exact hbig)]
    clear hsum
    generalize encK (fitL s.data.toList) = A at *
    obtain ⟨W2, hcp, q0, q1, hb2⟩ := fit_copy (P := Tryd.prog) w ((w.alloc (.cells (fillB 64 []) 46)).alloc (.cells (fillB 64 []) 46)) 32 9 3 5 s s.data.toList rfl (by omega) Tryd.underlying32 z5
      (below2 w _ _) (alloc2_at w _ _).1 (alloc2_at w _ _).2
    rw [← hk.out, hfit.out] at q1
    have hR := heap_setRow_same W2 w.heap.size _ A _ q0
    have hB : Hid (Below w.heap.size w (W2.setRow w.heap.size A)) := hb2.trans (below_setRow _ _ _ _ (by omega))
    clear hb2
    rw [zero64] at hcp
    go_enter Tryd.func30, Tryd.ntmps30
    go_wp2_with (first | ((with_reducible refine at_load ?_); go_must (refine load_arm 12 46 (.tmp 3) _ _ A _ _ _ q1 Tryd.underlying46 hsz rfl ?_)) | ((with_reducible refine at_store ?_); go_must (refine store_arm 46 (.tmp 2) (.tmp 12) _ A _ _ q0 hsz hzs hone rfl rfl ?_)))
    refine bodyPost_ret (v := .agg A) ?_ rfl ⟨rfl, hB⟩
    refine results_cell_row Tryd.results30 _ _ w.heap.size 46 A (0, 0) _ ?_ hR Tryd.underlying46 rfl hsz
    rfl
set_option maxRecDepth 100000 in
set_option maxHeartbeats 1600000 in
theorem masked_any (m : UInt8) (f : List UInt8) (hf : f.length = 64) (g : Nat) (w : World) (hg : w.heap[g]? = some (.cells (encK f) 46 (0, 0))) :
    Calls Tryd.prog 31 #[.int .u8 (m.toNat : Int), .pointer (some ⟨g, 0, none⟩)] w fun e w' => e = .returned (.string ⟨(maskL m f).toArray⟩) ∧ Below w.heap.size w w' := by
  have hsz : (Tryd.prog.info? 46).map (·.size) = some (encK f).size := by rw [encK_size, hf]; exact sz46
  have hone := encK_one f
  have hzs : (fillB 64 []).size = (encK f).size := by rw [encK_size, hf]; rfl
  have hst : Hid (MI m f w (w.alloc (.cells (encK f) 46)) 0) := MI.start m f w
  generalize encK f = A at *
  go_enter Tryd.func31, Tryd.ntmps31
  go_wp2_with (first | ((with_reducible refine at_load (dst := some 6) ?_); go_must (refine load_arm 6 46 (.tmp 1) _ _ A _ _ _ hg Tryd.underlying46 hsz rfl ?_)) | ((with_reducible refine at_store (ty := 46) ?_); go_must (refine store_arm 46 (.tmp 4) (.tmp 6) _ A _ _ (heap_alloc_new _ _) hsz hzs hone rfl rfl ?_; rw [World.setRow_alloc_new])))
  clear hg hsz hone hzs
  go_loopw [7] (fun i wr => ∃ k : Nat, k ≤ 64 ∧ i = .int .i64 k ∧ MI m f w wr k) (fun i _ => 64 - (intOf i).toNat)
  case atStart => exact ⟨0, by omega, rfl, hst.out⟩
  case round =>
    clear hst
    obtain ⟨k, hk, rfl, hM⟩ := hrel
    by_cases hlt : k < 64
    · have i0 : (0 : Int) ≤ (k : Int) := by omega
      have i1 : (k : Int) < 64 := by omega
      have hc := hM.cell (by omega)
      have hfr := hM.free k
      have hS : Hid (MI m f w (wr.setCell ⟨w.heap.size, k, none⟩ (.int .u8 ((f[k] ^^^ m).toNat : Int))) (k + 1)) := hM.step (by omega)
      clear hM
      go_wp2
      go_roundw
      case rel => exact ⟨k + 1, by omega, by go_num, hS.out⟩
      case measure => simp [intOf]; omega
    · have i1 : ¬ (k : Int) < 64 := by omega
      have hconv := run_convert_bytes_back (P := Tryd.prog) wr 32 9 5 ⟨w.heap.size, 0, none⟩ 64 (maskL m f) Tryd.underlying32 Tryd.underlying5 Tryd.underlying9 (fun j hj => hM.bytes (by omega) j hj)
      rw [maskL_length, hf] at hconv
      have hB : Hid (Below w.heap.size w wr) := hM.2
      clear hM
      go_wp2
      go_ret
      exact ⟨rfl, hB⟩
/-- what maskedKey answers: the closure over the fitted key's own array -/
def KeyFn (w' : World) (base : Nat) (v : Value) (f : List UInt8) : Prop := ∃ g, base ≤ g ∧ v = .func (.func 31) #[] #[.pointer (some ⟨g, 0, none⟩)] ∧ w'.heap[g]? = some (.cells (encK f) 46 (0, 0))
set_option maxRecDepth 100000 in
set_option maxHeartbeats 1600000 in
theorem maskedKey_any (s : ByteArray) (hn : s.size < 1152921504606846976) (w : World) (hTab : Tab w) (h0 : 0 < w.heap.size) :
    Calls Tryd.prog 22 #[.string s] w fun e w' => (∃ v, e = .returned v ∧ KeyFn w' w.heap.size v (fitL s.data.toList)) ∧ Below w.heap.size w w' := by
  have hfit := fit_any s hn w hTab h0
  have hsz : (Tryd.prog.info? 46).map (·.size) = some (encK (fitL s.data.toList)).size := by rw [encK_size, fitL_length]; exact sz46
  have hone := encK_one (fitL s.data.toList)
  have hzs : (fillB 64 []).size = (encK (fitL s.data.toList)).size := by rw [encK_size, fitL_length]; rfl
  have hfin : Hid (∀ w1, Below w.heap.size w w1 → KeyFn (w1.alloc (.cells (encK (fitL s.data.toList)) 46)) w.heap.size (.func (.func 31) #[] #[.pointer (some ⟨w1.heap.size, 0, none⟩)]) (fitL s.data.toList)) := fun w1 hb =>
    ⟨w1.heap.size, hb.size, rfl, heap_alloc_new _ _⟩
  generalize encK (fitL s.data.toList) = A at *
  go_enter Tryd.func22, Tryd.ntmps22
  go_wp2_with fail
  refine hfit.mono ?_
  rintro e w1 ⟨rfl, hb1⟩
  have HB : Hid (Below w.heap.size w w1) := hb1
  clear hb1 hfit hTab
  go_wp2_with ((with_reducible refine at_store (ty := 46) ?_); go_must (refine store_arm 46 (.tmp 3) (.tmp 5) _ A _ _ (heap_alloc_new _ _) hsz hzs hone rfl rfl ?_; rw [World.setRow_alloc_new]))
  go_ret
  exact ⟨⟨_, rfl, hfin.out w1 HB.out⟩, HB.out.alloc HB.out.size _⟩
theorem cat_list (s : ByteArray) (l : List UInt8) : ((⟨l.toArray⟩ : ByteArray) ++ s).data.toList = l ++ s.data.toList := by simp [ByteArray.data_append]
theorem cat_size (s : ByteArray) (l : List UInt8) : ((⟨l.toArray⟩ : ByteArray) ++ s).size = l.length + s.size := by rw [← text_len, cat_list, List.length_append, text_len]
theorem list_size (l : List UInt8) : (⟨l.toArray⟩ : ByteArray).size = l.length := by show l.toArray.size = _; simp
set_option maxRecDepth 100000 in
set_option maxHeartbeats 1600000 in
theorem tag_any (k m : ByteArray) (hk : k.size < 1152921504606846976) (hm : m.size < 1152921504606846000) (w : World) (hTab : Tab w) (h0 : 0 < w.heap.size) :
    Calls Tryd.prog 9 #[.string k, .string m] w fun e w' => e = .returned (.string ⟨(tagL k.data.toList m.data.toList).toArray⟩) ∧ Below w.heap.size w w' := by
  have HT : Hid (Tab w) := hTab
  have hkey := maskedKey_any k hk w hTab h0
  have hfl := fitL_length k.data.toList
  have htag : Hid (tagL k.data.toList m.data.toList = shaB (maskL 92 (fitL k.data.toList) ++ shaB (maskL 54 (fitL k.data.toList) ++ m.data.toList))) := rfl
  generalize fitL k.data.toList = f at *
  have c1 : ∀ (g : Nat) (W : World), W.heap[g]? = some (.cells (encK f) 46 (0, 0)) → Calls Tryd.prog 31 #[.int .u8 92, .pointer (some ⟨g, 0, none⟩)] W fun e w' => e = .returned (.string ⟨(maskL 92 f).toArray⟩) ∧ Below W.heap.size W w' := fun g W h => masked_any 92 f hfl g W h
  have c2 : ∀ (g : Nat) (W : World), W.heap[g]? = some (.cells (encK f) 46 (0, 0)) → Calls Tryd.prog 31 #[.int .u8 54, .pointer (some ⟨g, 0, none⟩)] W fun e w' => e = .returned (.string ⟨(maskL 54 f).toArray⟩) ∧ Below W.heap.size W w' := fun g W h => masked_any 54 f hfl g W h
  have l1 : (maskL 92 f).length = 64 := by rw [maskL_length, hfl]
  have l2 : (maskL 54 f).length = 64 := by rw [maskL_length, hfl]
  generalize maskL 92 f = F1 at *
  generalize maskL 54 f = F2 at *
  have c3 : ∀ W, Tab W → 0 < W.heap.size → Calls Tryd.prog 18 #[.string (⟨F2.toArray⟩ ++ m)] W fun e w' => e = .returned (.string ⟨(shaB (F2 ++ m.data.toList)).toArray⟩) ∧ Below W.heap.size W w' := fun W hT h0 => by
    have := sum_any (⟨F2.toArray⟩ ++ m) (by rw [cat_size, l2]; omega) W hT h0
    rwa [cat_list] at this
  have ls : (shaB (F2 ++ m.data.toList)).length = 32 := shaB_length _
  generalize shaB (F2 ++ m.data.toList) = S at *
  have c4 : ∀ W, Tab W → 0 < W.heap.size → Calls Tryd.prog 18 #[.string (⟨F1.toArray⟩ ++ ⟨S.toArray⟩)] W fun e w' => e = .returned (.string ⟨(shaB (F1 ++ S)).toArray⟩) ∧ Below W.heap.size W w' := fun W hT h0 => by
    have := sum_any (⟨F1.toArray⟩ ++ ⟨S.toArray⟩) (by rw [cat_size, l1, list_size, ls]; omega) W hT h0
    rwa [cat_list] at this
  rw [htag.out]
  have hadd1 : (⟨F2.toArray⟩ : ByteArray).size + m.size ≤ 9223372036854775807 := by rw [list_size, l2]; omega
  have hadd2 : (⟨F1.toArray⟩ : ByteArray).size + (⟨S.toArray⟩ : ByteArray).size ≤ 9223372036854775807 := by rw [list_size, l1, list_size, ls]; omega
  have a1 : ∀ W : World, (Op.stringOp .add ⟨F2.toArray⟩ m).run Tryd.prog W = .ok (.string (⟨F2.toArray⟩ ++ m)) W := fun W => run_string_add_sum W _ _ hadd1
  have a2 : ∀ W : World, (Op.stringOp .add ⟨F1.toArray⟩ ⟨S.toArray⟩).run Tryd.prog W = .ok (.string (⟨F1.toArray⟩ ++ ⟨S.toArray⟩)) W := fun W => run_string_add_sum W _ _ hadd2
  generalize (⟨F2.toArray⟩ ++ m : ByteArray) = T1 at *
  generalize (⟨F1.toArray⟩ ++ ⟨S.toArray⟩ : ByteArray) = T2 at *
  generalize shaB (F1 ++ S) = R at *
  clear hTab htag hadd1 hadd2 hfl l1 l2 ls
  generalize (⟨F1.toArray⟩ : ByteArray) = G1 at *
  generalize (⟨F2.toArray⟩ : ByteArray) = G2 at *
  generalize (⟨S.toArray⟩ : ByteArray) = G3 at *
  go_enter Tryd.func9, Tryd.ntmps9
  go_wp2_with fail
  refine hkey.mono ?_
  rintro e w1 ⟨⟨v, rfl, g, hg0, rfl, hg1⟩, hb1⟩
  have z1 := hb1.size
  have g1 := lt_of_block hg1
  clear hkey
  go_wp2_with fail
  refine (c1 g w1 hg1).mono ?_
  rintro e w2 ⟨rfl, hb2⟩
  have z2 := hb2.size
  have hg2 : w2.heap[g]? = some (.cells (encK f) 46 (0, 0)) := by rw [hb2.block _ g1]; exact hg1
  have b2 : Below w.heap.size w w2 := hb1.trans (hb2.mono z1)
  clear c1 hg1 hb1 hb2
  go_wp2_with fail
  refine (c2 g w2 hg2).mono ?_
  rintro e w3 ⟨rfl, hb3⟩
  have z3 := hb3.size
  have b3 : Below w.heap.size w w3 := b2.trans (hb3.mono (by omega))
  clear c2 hg2 b2 hb3
  go_wp2_with fail
  refine (c3 w3 (HT.out.below b3 h0) (by omega)).mono ?_
  rintro e w4 ⟨rfl, hb4⟩
  have z4 := hb4.size
  have b4 : Below w.heap.size w w4 := b3.trans (hb4.mono (by omega))
  clear c3 b3 hb4
  go_wp2_with fail
  refine (c4 w4 (HT.out.below b4 h0) (by omega)).mono ?_
  rintro e w5 ⟨rfl, hb5⟩
  have b5 : Hid (Below w.heap.size w w5) := b4.trans (hb5.mono (by omega))
  clear c4 b4 hb5
  go_wp2
  go_ret
  exact ⟨rfl, b5⟩
end Go.Proofs.YtaefnkaenhmekaaDoor
