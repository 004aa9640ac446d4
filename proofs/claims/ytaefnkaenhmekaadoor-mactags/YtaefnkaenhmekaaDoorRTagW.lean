/- The contracts of the document's Tag, Check and Open. -/
import Derived.Test.YtaefnkaenhmekaaDoorRKeyW
import Derived.Test.YtaefnkaenhmekaaDoorTurnsW
namespace Go.Proofs.YtaefnkaenhmekaaDoor
open Go.RowKit
theorem beq_text (a b : ByteArray) : (a.toList == b.toList) = decide (a = b) := by
  rw [ByteArray.toList_eq, ByteArray.toList_eq]
  by_cases h : a = b
  · rw [h, decide_eq_true rfl]; exact beq_self_eq_true _
  · rw [decide_eq_false h, beq_eq_false_iff_ne]; exact fun e => h (text_ext e)
set_option maxRecDepth 100000 in
set_option maxHeartbeats 1600000 in
theorem rtag_any (k m : ByteArray) (hk : k.size ≤ 140737488355000) (hm : m.size ≤ 140737488354900) (w : World) :
    Calls Tryd.prog 8 #[.string k, .string m] w fun e w' => e = .returned (.string (tagS k m)) ∧ Below w.heap.size w w' := by
  have hkey := rfitted_any k hk w
  have hfl := fitL_length k.data.toList
  have htag : Hid (tagS k m = ⟨(shaB (maskL 92 (fitL k.data.toList) ++ shaB (maskL 54 (fitL k.data.toList) ++ m.data.toList))).toArray⟩) := rfl
  generalize fitL k.data.toList = f at *
  have c1 : ∀ (b0 g cap : Nat) (W : World), ownsG W b0 (.slice (some ⟨g, 0, none⟩) 64 cap) 64 (f.map encB) → Calls Tryd.prog 21 #[.slice (some ⟨g, 0, none⟩) 64 cap, .int .u8 92] W fun e w' => e = .returned (.string ⟨(maskL 92 f).toArray⟩) ∧ Below W.heap.size W w' := fun b0 g cap W h => rwith_any 92 f hfl b0 g cap W h
  have c2 : ∀ (b0 g cap : Nat) (W : World), ownsG W b0 (.slice (some ⟨g, 0, none⟩) 64 cap) 64 (f.map encB) → Calls Tryd.prog 21 #[.slice (some ⟨g, 0, none⟩) 64 cap, .int .u8 54] W fun e w' => e = .returned (.string ⟨(maskL 54 f).toArray⟩) ∧ Below W.heap.size W w' := fun b0 g cap W h => rwith_any 54 f hfl b0 g cap W h
  have l1 : (maskL 92 f).length = 64 := by rw [maskL_length, hfl]
  have l2 : (maskL 54 f).length = 64 := by rw [maskL_length, hfl]
  generalize maskL 92 f = F1 at *
  generalize maskL 54 f = F2 at *
  have c3 : ∀ W, Calls Tryd.prog 20 #[.string (⟨F2.toArray⟩ ++ m)] W fun e w' => e = .returned (.string ⟨(shaB (F2 ++ m.data.toList)).toArray⟩) ∧ Below W.heap.size W w' := fun W => by
    have := rsum_any (⟨F2.toArray⟩ ++ m) (by rw [cat_size, l2]; omega) W
    rwa [cat_list] at this
  have ls : (shaB (F2 ++ m.data.toList)).length = 32 := shaB_length _
  generalize shaB (F2 ++ m.data.toList) = S at *
  have c4 : ∀ W, Calls Tryd.prog 20 #[.string (⟨F1.toArray⟩ ++ ⟨S.toArray⟩)] W fun e w' => e = .returned (.string ⟨(shaB (F1 ++ S)).toArray⟩) ∧ Below W.heap.size W w' := fun W => by
    have := rsum_any (⟨F1.toArray⟩ ++ ⟨S.toArray⟩) (by rw [cat_size, l1, list_size, ls]; omega) W
    rwa [cat_list] at this
  rw [htag.out]
  have hadd1 : (⟨F2.toArray⟩ : ByteArray).size + m.size ≤ 9223372036854775807 := by rw [list_size, l2]; omega
  have hadd2 : (⟨F1.toArray⟩ : ByteArray).size + (⟨S.toArray⟩ : ByteArray).size ≤ 9223372036854775807 := by rw [list_size, l1, list_size, ls]; omega
  have a1 : ∀ W : World, (Op.stringOp .add ⟨F2.toArray⟩ m).run Tryd.prog W = .ok (.string (⟨F2.toArray⟩ ++ m)) W := fun W => run_string_add_sum W _ _ hadd1
  have a2 : ∀ W : World, (Op.stringOp .add ⟨F1.toArray⟩ ⟨S.toArray⟩).run Tryd.prog W = .ok (.string (⟨F1.toArray⟩ ++ ⟨S.toArray⟩)) W := fun W => run_string_add_sum W _ _ hadd2
  generalize (⟨F2.toArray⟩ ++ m : ByteArray) = T1 at *
  generalize (⟨F1.toArray⟩ ++ ⟨S.toArray⟩ : ByteArray) = T2 at *
  generalize shaB (F1 ++ S) = R at *
  clear htag hadd1 hadd2 hfl l1 l2 ls
  generalize (⟨F1.toArray⟩ : ByteArray) = G1 at *
  generalize (⟨F2.toArray⟩ : ByteArray) = G2 at *
  generalize (⟨S.toArray⟩ : ByteArray) = G3 at *
  go_enter Tryd.func8, Tryd.ntmps8
  go_wp2_with fail
  refine hkey.mono ?_
  rintro e w1 ⟨⟨v, rfl, ho1⟩, hb1⟩
  obtain ⟨g, cap, rfl, _, _, _⟩ := ho1.form
  have z1 := hb1.size
  clear hkey
  go_wp2_with fail
  refine (c1 _ g cap w1 ho1).mono ?_
  rintro e w2 ⟨rfl, hb2⟩
  have z2 := hb2.size
  have ho2 := ho1.below hb2
  have b2 : Below w.heap.size w w2 := hb1.trans (hb2.mono z1)
  clear c1 ho1 hb1 hb2
  go_wp2_with fail
  refine (c2 _ g cap w2 ho2).mono ?_
  rintro e w3 ⟨rfl, hb3⟩
  have b3 : Below w.heap.size w w3 := b2.trans (hb3.mono (by omega))
  clear c2 ho2 b2 hb3
  go_wp2_with fail
  refine (c3 w3).mono ?_
  rintro e w4 ⟨rfl, hb4⟩
  have b4 : Below w.heap.size w w4 := b3.trans (hb4.mono b3.size)
  clear c3 b3 hb4
  go_wp2_with fail
  refine (c4 w4).mono ?_
  rintro e w5 ⟨rfl, hb5⟩
  have b5 : Hid (Below w.heap.size w w5) := b4.trans (hb5.mono b4.size)
  clear c4 b4 hb5
  go_wp2
  go_ret
  exact ⟨rfl, b5⟩
set_option maxHeartbeats 800000 in
theorem rcheck_any (k m t : ByteArray) (hk : k.size ≤ 140737488355000) (hm : m.size ≤ 140737488354900) (w : World) :
    Calls Tryd.prog 13 #[.string k, .string m, .string t] w fun e w' => e = .returned (.int .i64 (checkE k m t)) ∧ Below w.heap.size w w' := by
  have c1 := rtag_any k m hk hm w
  unfold checkE
  generalize tagS k m = T at *
  by_cases h : T = t
  · rw [if_pos h]
    subst h
    go_enter Tryd.func13, Tryd.ntmps13
    go_wp2_with fail
    refine c1.mono ?_
    rintro e w1 ⟨rfl, hb1⟩
    have b1 : Hid (Below w.heap.size w w1) := hb1
    clear hb1
    go_wp2
    go_ret
    exact ⟨rfl, b1⟩
  · rw [if_neg h]
    have hbe : (T.toList == t.toList) = false := by rw [beq_text]; exact decide_eq_false h
    go_enter Tryd.func13, Tryd.ntmps13
    go_wp2_with fail
    refine c1.mono ?_
    rintro e w1 ⟨rfl, hb1⟩
    have b1 : Hid (Below w.heap.size w w1) := hb1
    clear hb1
    go_wp2
    go_ret
    exact ⟨rfl, b1⟩
set_option maxRecDepth 100000 in
set_option maxHeartbeats 1600000 in
theorem ropen_any (k s : ByteArray) (hk : k.size ≤ 140737488355000) (hs : s.size ≤ 140737488354900) (w : World) :
    Calls Tryd.prog 16 #[.string k, .string s] w fun e w' => e = .returned (.tuple #[.string (openA k s), .int .i64 (openE k s)]) ∧ Below w.heap.size w w' := by
  have j0 : (s.size : Int) ≤ 140737488354900 := by omega
  by_cases h32 : s.size < 32
  · have hE : openE k s = 20 := by unfold openE; rw [if_pos h32]
    have hA : openA k s = ⟨#[]⟩ := by unfold openA; rw [hE]; rfl
    rw [hE, hA]
    have i1 : (s.size : Int) < 32 := by omega
    have i2 : decide ((s.size : Int) - 32 < 0) = true := by rw [decide_eq_true_iff]; omega
    have i3 : (s.size : Int) - 32 < 0 := by omega
    clear hE hA
    go_enter Tryd.func16, Tryd.ntmps16
    go_wp2
    go_quiet (fail)
    go_wp2
    go_ret2
    exact ⟨rfl, ⟨rfl, rfl, rfl, Nat.le_refl _, fun _ _ => rfl⟩⟩
  · obtain ⟨n, hn⟩ : ∃ n, n = s.size - 32 := ⟨_, rfl⟩
    have i3 : (s.size : Int) - 32 = (n : Int) := by omega
    have i4 : (0 : Int) ≤ (n : Int) := by omega
    have i5 : (n : Int) ≤ (s.size : Int) := by omega
    have i6 : ¬ (n : Int) < 0 := by omega
    have i7 : decide ((n : Int) < 0) = false := by rw [decide_eq_false_iff_not]; omega
    have hE : openE k s = checkE k (headS s) (tailS s) := by unfold openE; rw [if_neg h32]
    have hA : openA k s = if checkE k (headS s) (tailS s) = 0 then headS s else ⟨#[]⟩ := by unfold openA; rw [hE]
    rw [hE, hA]
    unfold checkE
    have s1 := fun W => slice_head W s n (by omega)
    have s2 := fun W => slice_tail W s n (by omega)
    have ct := fun W => rtag_any k (headS s) hk (by have := headS_size s; omega) W
    generalize tagS k (headS s) = T at *
    have CT : Hid (∀ W, Below w.heap.size w W → Calls Tryd.prog 8 #[.string k, .string (headS s)] W fun e w' => e = .returned (.string T) ∧ Below w.heap.size w w') := fun W hb =>
      (ct W).mono fun e w' ⟨h1, h2⟩ => ⟨h1, hb.trans (h2.mono hb.size)⟩
    generalize headS s = hd at *
    generalize tailS s = tl at *
    have b0 : Below w.heap.size w w := Below.refl _ _
    have jw : IntKind.i64.wrap (n : Int) = (n : Int) := by simp [IntKind.wrap, IntKind.bits, IntKind.signed]; omega
    clear hE hA hn h32 ct
    by_cases hok : T = tl
    · subst hok
      rw [if_pos rfl, if_pos rfl]
      go_enter Tryd.func16, Tryd.ntmps16
      go_wp2
      go_region_held3 (fun W => Below w.heap.size w W) (first | assumption | exact b0.drew) (first | (go_at_call 8; refine (CT.out _ ?_).mono ?_; assumption; rintro e w1 ⟨rfl, hb1⟩))
      all_goals
        have B1 : Hid (Below w.heap.size w w1) := by assumption
        go_wp2
        go_ret2
        exact ⟨rfl, B1⟩
    · rw [if_neg hok, if_neg (by omega)]
      have hbe : (T.toList == tl.toList) = false := by rw [beq_text]; exact decide_eq_false hok
      go_enter Tryd.func16, Tryd.ntmps16
      go_wp2
      go_region_held3 (fun W => Below w.heap.size w W) (first | assumption | exact b0.drew) (first | (go_at_call 8; refine (CT.out _ ?_).mono ?_; assumption; rintro e w1 ⟨rfl, hb1⟩))
      all_goals
        have B1 : Hid (Below w.heap.size w w1) := by assumption
        go_wp2
        go_ret2
        exact ⟨rfl, B1⟩
end Go.Proofs.YtaefnkaenhmekaaDoor
