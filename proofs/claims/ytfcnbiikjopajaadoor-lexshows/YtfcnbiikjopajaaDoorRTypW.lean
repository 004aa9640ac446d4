/- The contract of the document's typed. -/
import Derived.Test.YtfcnbiikjopajaaDoorRTimW
import Derived.Test.YtfcnbiikjopajaaDoorRFitW
import Derived.Test.YtfcnbiikjopajaaDoorTypedW
import Derived.Test.YtfcnbiikjopajaaDoorMgF
namespace Go.Proofs.YtfcnbiikjopajaaDoor
open Go.RowKit
def wordP : Nat → Bs
  | 0 => [66, 79, 79, 76]
  | 1 => [73, 78, 84]
  | _ => [68, 73, 78, 84]
def typeN : Nat → Int
  | 0 => 1
  | 1 => 2
  | _ => 3
theorem typeN_le (i : Nat) : 1 ≤ typeN i ∧ typeN i ≤ 3 := by
  match i with
  | 0 => decide | 1 => decide | _ + 2 => exact ⟨by show (1 : Int) ≤ 3; decide, by show (3 : Int) ≤ 3; decide⟩
theorem typedL_time {word l : Bs} (h : word = [84] ∨ word = [84, 73, 77, 69]) : typedL word l = (timeL 6 0 0 l).map fun x => (numT x.1 4, x.2) := by rw [typedL, if_pos h]
theorem typedL_at {word l : Bs} (h : ¬ (word = [84] ∨ word = [84, 73, 77, 69])) {i : Nat} (hi : i < 3) (hw : word = wordP i) : typedL word l = typedN (typeN i) l := by
  rw [typedL, if_neg h]
  match i, hi with
  | 0, _ => rw [if_pos (show word = [66, 79, 79, 76] from hw)]; rfl
  | 1, _ => rw [if_neg (by rw [hw]; decide), if_pos (show word = [73, 78, 84] from hw)]; rfl
  | 2, _ => rw [if_neg (by rw [hw]; decide), if_neg (by rw [hw]; decide), if_pos (show word = [68, 73, 78, 84] from hw)]; rfl
theorem typedL_no {word l : Bs} (h : ¬ (word = [84] ∨ word = [84, 73, 77, 69])) (hno : ∀ i, i < 3 → word ≠ wordP i) : typedL word l = none := by
  rw [typedL, if_neg h, if_neg (show word ≠ [66, 79, 79, 76] from hno 0 (by omega)), if_neg (show word ≠ [73, 78, 84] from hno 1 (by omega)), if_neg (show word ≠ [68, 73, 78, 84] from hno 2 (by omega))]
theorem time_out {L : Nat} {o : Option (Nat × Bs)} {q0 q1 : Int} {q2 : Bool} (h : digV L o = .tuple #[.int .i64 q0, .int .i64 q1, .bool q2]) : TokOut (o.map fun x => (numT x.1 4, x.2)) L (.tuple #[tkA (numT q0 4) 0, .int .i64 q1, .bool q2]) := by
  cases o with
  | none =>
    simp only [digV, Value.tuple.injEq, Array.mk.injEq, List.cons.injEq, Value.int.injEq, Value.bool.injEq, true_and, and_true] at h
    obtain ⟨rfl, rfl, rfl⟩ := h
    exact ⟨_, _, rfl⟩
  | some x =>
    obtain ⟨n, r⟩ := x
    simp only [digV, Value.tuple.injEq, Array.mk.injEq, List.cons.injEq, Value.int.injEq, Value.bool.injEq, true_and, and_true] at h
    obtain ⟨rfl, rfl, rfl⟩ := h
    rfl
theorem typedN_none {ty : Int} {m : Bs} {n' : Int} {L : Nat} {o : Option (Nat × Bs)} {q0 q1 : Int} {q2 : Bool} (f : Nat → Int) (hm : typedN ty m = match o with | none => none | some (n, r) => if fitL ty (f n) then some (numT (f n) ty, r) else none)
    (hf : n' = f q0.toNat) (h : digV L o = .tuple #[.int .i64 q0, .int .i64 q1, .bool q2]) :
    TokOut (typedN ty m) L (.tuple #[tkA (numT n' ty) 0, .int .i64 q1, .bool (q2 && fitL ty n')]) := by
  rw [hm]
  cases o with
  | none =>
    simp only [digV, Value.tuple.injEq, Array.mk.injEq, List.cons.injEq, Value.int.injEq, Value.bool.injEq, true_and, and_true] at h
    obtain ⟨rfl, rfl, rfl⟩ := h
    exact ⟨_, _, rfl⟩
  | some x =>
    obtain ⟨n, r⟩ := x
    simp only [digV, Value.tuple.injEq, Array.mk.injEq, List.cons.injEq, Value.int.injEq, Value.bool.injEq, true_and, and_true] at h
    obtain ⟨rfl, rfl, rfl⟩ := h
    rw [Int.toNat_natCast] at hf
    subst hf
    simp only []
    cases hfit : fitL ty (f n) with
    | true => rw [if_pos rfl]; rfl
    | false => rw [if_neg (by decide)]; exact ⟨_, _, rfl⟩
theorem dig_form0 (L : Nat) (o : Option (Nat × Bs)) : ∃ q0 q1 q2, digV L o = .tuple #[.int .i64 q0, .int .i64 q1, .bool q2] := by
  cases o with
  | none => exact ⟨_, _, _, rfl⟩
  | some x => exact ⟨_, _, _, rfl⟩
theorem dig_form (L : Nat) (o : Option (Nat × Bs)) (h : ∀ n r, o = some (n, r) → n ≤ 2147483648) : ∃ q0 q1 q2, digV L o = .tuple #[.int .i64 q0, .int .i64 q1, .bool q2] ∧ 0 ≤ q0 ∧ q0 ≤ 2147483648 := by
  cases o with
  | none => exact ⟨0, 0, false, rfl, by decide, by decide⟩
  | some x =>
    obtain ⟨n, r⟩ := x
    have := h n r rfl
    exact ⟨_, _, _, rfl, by omega, by omega⟩
abbrev WordT : Obj := .cells #[.string ⟨#[66, 79, 79, 76]⟩, .string ⟨#[73, 78, 84]⟩, .string ⟨#[68, 73, 78, 84]⟩] 9
abbrev TypT : Obj := .cells #[.int .i64 1, .int .i64 2, .int .i64 3] 3
theorem word_cell (w : World) (i : Nat) (hi : i < 3) : ((w.alloc WordT).alloc TypT).cell? ⟨w.heap.size, i, none⟩ = some (.string ⟨(wordP i).toArray⟩) := by
  rw [World.cell?_alloc_lt _ _ _ (by simp)]
  match i, hi with
  | 0, _ => simp; rfl
  | 1, _ => simp; rfl
  | 2, _ => simp; rfl
theorem typ_cell (w : World) (i : Nat) (hi : i < 3) : ((w.alloc WordT).alloc TypT).cell? ⟨w.heap.size + 1, i, none⟩ = some (.int .i64 (typeN i)) := by
  match i, hi with
  | 0, _ => simp; rfl
  | 1, _ => simp; rfl
  | 2, _ => simp; rfl
theorem list_beq (a : Bs) (b : Bs) : ((⟨a.toArray⟩ : ByteArray).toList == b) = decide (a = b) := by
  have h := (beq_text ⟨a.toArray⟩ ⟨b.toArray⟩).trans (text_eq a b)
  rw [show (⟨b.toArray⟩ : ByteArray).toList = b from by rw [ByteArray.toList_eq]] at h
  exact h
set_option maxRecDepth 100000 in
set_option maxHeartbeats 6400000 in
theorem rtyped_any (l word : Bs) (k : Nat) (hl : l.length ≤ 65536) (hk : k ≤ l.length) (w : World) : Calls Tryd.prog 47 #[.string ⟨l.toArray⟩, .int .i64 (k : Int), .string ⟨word.toArray⟩] w fun e w' => (∃ v, e = .returned v ∧ TokOut (typedL word (l.drop k)) l.length v) ∧ Below w.heap.size w w' := by
  have hsz := hide (list_size l)
  have HX : Hid (∀ (i : Nat) (h : i < l.length), ∀ W : World, (Instr.index 9 (.string ⟨l.toArray⟩) (.int .i64 (i : Int))).run Tryd.prog W = .ok (.int .u8 (l[i].toNat : Int)) W) := fun i h W => run_idx ⟨l.toArray⟩ i l[i] (List.getElem?_eq_getElem h) W
  have CD : Hid (∀ j, j ≤ l.length → ∀ W, Calls Tryd.prog 65 #[.string ⟨l.toArray⟩, .int .i64 (j : Int), .int .i64 10, .int .i64 2147483648] W fun e w' => e = .returned (digV l.length (digs 10 2147483648 false 0 (l.drop j))) ∧ w' = W) := fun j hj W => rdigits_any l j 10 2147483648 hl hj (by decide) (by decide) (by decide) W
  have CT := hide fun W => rtime_any l k hl hk W
  have i0 : ((⟨l.toArray⟩ : ByteArray).size : Int) ≤ 65536 := by rw [list_size]; omega
  have w1 := list_beq word [84]
  have w4 := list_beq word [84, 73, 77, 69]
  have HWE : Hid (∀ u : Bs, ((⟨u.toArray⟩ : ByteArray).toList == (⟨word.toArray⟩ : ByteArray).toList) = decide (word = u)) := fun u => by
    rw [beq_text, text_eq]
    apply decide_eq_decide.2
    exact eq_comm
  obtain ⟨nm, HNm⟩ : ∃ u : ByteArray, Hid ((⟨word.toArray⟩ : ByteArray) = u) := ⟨_, rfl⟩
  rw [HNm.out] at w1 w4 HWE ⊢
  generalize (⟨l.toArray⟩ : ByteArray) = s at *
  have B0 := hide ((Below.refl w.heap.size w).alloc (Nat.le_refl _) Z5)
  by_cases ht : word = [84] ∨ word = [84, 73, 77, 69]
  · have HT := hide (typedL_time (l := l.drop k) ht)
    obtain ⟨q0, q1, q2, hq⟩ := dig_form0 l.length (timeL 6 0 0 (l.drop k))
    have HO := hide (time_out hq)
    rw [hq] at CT
    clear hq CD HX HWE
    rcases ht with ht | ht
    · rw [decide_eq_true ht] at w1
      clear w4
      go_enter Tryd.func47, Tryd.ntmps47
      go_wp2_with fail
      refine (CT.out _).mono ?_
      rintro e w2 ⟨rfl, hb⟩
      rw [World.size_alloc] at hb
      obtain ⟨⟨k0, k1, k2, k3, k4⟩, f0, f1, f2, f3, f4⟩ := res5 hb
      have HB := hide (B0.out.trans (hb.mono (Nat.le_succ _)))
      clear CT hb
      go_wp2
      refine bodyPost_ret (v := .tuple #[tkA (numT q0 4) 0, .int .i64 q1, .bool q2]) ?_ rfl ⟨⟨_, rfl, ?_⟩, ?_⟩
      · simp [results, Tryd.results47, go_sem, tkA, numT, k0, k1, k2, k3, k4]
      · rw [HT.out]; exact HO.out
      · exact below5 HB.out (Nat.le_refl _) _ _ _ _ _
    · rw [decide_eq_true ht] at w4
      rw [decide_eq_false (by rw [ht]; decide)] at w1
      go_enter Tryd.func47, Tryd.ntmps47
      go_wp2_with fail
      refine (CT.out _).mono ?_
      rintro e w2 ⟨rfl, hb⟩
      rw [World.size_alloc] at hb
      obtain ⟨⟨k0, k1, k2, k3, k4⟩, f0, f1, f2, f3, f4⟩ := res5 hb
      have HB := hide (B0.out.trans (hb.mono (Nat.le_succ _)))
      clear CT hb
      go_wp2
      refine bodyPost_ret (v := .tuple #[tkA (numT q0 4) 0, .int .i64 q1, .bool q2]) ?_ rfl ⟨⟨_, rfl, ?_⟩, ?_⟩
      · simp [results, Tryd.results47, go_sem, tkA, numT, k0, k1, k2, k3, k4]
      · rw [HT.out]; exact HO.out
      · exact below5 HB.out (Nat.le_refl _) _ _ _ _ _
  · have hta : word ≠ [84] := fun h => ht (.inl h)
    have htb : word ≠ [84, 73, 77, 69] := fun h => ht (.inr h)
    rw [decide_eq_false hta] at w1
    rw [decide_eq_false htb] at w4
    have HT0 := hide ht
    clear CT hta htb ht
    have HC := hide (word_cell (w.alloc Z5))
    have HC2 := hide (typ_cell (w.alloc Z5))
    have BW := hide (((Below.refl (w.heap.size + 1) (w.alloc Z5)).alloc (by rw [World.size_alloc]; omega) WordT).alloc (by rw [World.size_alloc, World.size_alloc]; omega) TypT)
    rw [World.size_alloc] at HC HC2
    go_enter Tryd.func47, Tryd.ntmps47
    go_wp2_with fail
    generalize ((w.alloc (.cells #[.int .i64 0, .string ⟨#[]⟩, .int .i64 0, .int .i64 0, .int .i64 0] 41)).alloc (.cells #[.string ⟨#[66, 79, 79, 76]⟩, .string ⟨#[73, 78, 84]⟩, .string ⟨#[68, 73, 78, 84]⟩] 9)).alloc (.cells #[.int .i64 1, .int .i64 2, .int .i64 3] 3) = W0 at *
    go_loopw [1, 14] (fun a v wr => ∃ (i : Nat), i ≤ 3 ∧ a = .int .i64 (k : Int) ∧ v = .int .i64 (i : Int) ∧ wr = W0 ∧ Hid (∀ j, j < i → word ≠ wordP j)) (fun _ v _ => 3 - (intOf v).toNat)
    case atStart => exact ⟨0, by omega, rfl, rfl, rfl, fun j hj => absurd hj (Nat.not_lt_zero _)⟩
    case round =>
      obtain ⟨i, hi, rfl, rfl, hwr, hh⟩ := hrel
      subst hwr
      have j0 : (0 : Int) ≤ (i : Int) := by omega
      obtain ⟨⟨k0, k1, k2, k3, k4⟩, f0, f1, f2, f3, f4⟩ := res5 BW.out
      have HB := hide (B0.out.trans (BW.out.mono (Nat.le_succ _)))
      by_cases h3 : i < 3
      · have j1 : (i : Int) < 3 := by omega
        have hc := HC.out i h3
        have hc2 := HC2.out i h3
        have he := HWE.out (wordP i)
        have HT1 : Hid (word = wordP i → typedL word (l.drop k) = typedN (typeN i) (l.drop k)) := fun h => typedL_at HT0.out h3 h
        have hty := typeN_le i
        by_cases hw : word = wordP i
        · rw [decide_eq_true hw] at he
          have HT := hide (HT1.out hw)
          have CF : Hid (∀ n W, Calls Tryd.prog 54 #[.int .i64 (typeN i), .int .i64 n] W fun e w' => e = .returned (.bool (fitL (typeN i) n)) ∧ w' = W) := fun n W => rfits_any (typeN i) n hty.1 hty.2 W
          clear HT1 hw hh HC HC2 hty
          generalize (⟨(wordP i).toArray⟩ : ByteArray) = u at *
          generalize typeN i = ty at *
          by_cases hm : ∃ h : k < l.length, l[k] = 45
          · obtain ⟨hkl, h45⟩ := hm
            have g1 : (k : Int) < (s.size : Int) := by have := hsz.out; omega
            have hix := HX.out k hkl
            rw [show (l[k].toNat : Int) = 45 from by rw [h45]; rfl] at hix
            have cd := CD.out (k + 1) (by omega)
            rw [show ((k + 1 : Nat) : Int) = (k : Int) + 1 from by omega] at cd
            obtain ⟨q0, q1, q2, hq, r0, r1⟩ := dig_form l.length (digs 10 2147483648 false 0 (l.drop (k + 1))) (fun n r h => digs_le h (by decide))
            have HO := hide (typedN_none (ty := ty) (m := l.drop k) (n' := -q0) (fun n => -(n : Int)) (by rw [typedN, if_pos (by rw [dropAt hkl, h45]; rfl), List.tail_drop]; rfl) (by show -q0 = -((q0.toNat : Nat) : Int); omega) hq)
            rw [hq] at cd
            have kb : (k : Int) ≤ 65536 := by omega
            clear hq CD HX HWE h45
            go_wp2_with fail
            refine (cd _).mono ?_
            rintro e w2 ⟨rfl, hw2⟩
            subst hw2
            clear cd hix hc
            have K1 : w2.drew.cell? ⟨w.heap.size + 2, i, none⟩ = some (.int .i64 ty) := (drew_cell _ _).trans hc2
            have K2 : ∀ a1 a2 a3 a4 a5, (((((w2.setCell ⟨w.heap.size, 0, none⟩ a1).setCell ⟨w.heap.size, 1, none⟩ a2).setCell ⟨w.heap.size, 2, none⟩ a3).setCell ⟨w.heap.size, 3, none⟩ a4).setCell ⟨w.heap.size, 4, none⟩ a5).drew.cell? ⟨w.heap.size + 2, i, none⟩ = some (.int .i64 ty) := fun a1 a2 a3 a4 a5 => (drew_cell _ _).trans (cell5 hc2 (by show w.heap.size + 2 ≠ w.heap.size; omega) a1 a2 a3 a4 a5)
            cases q2 with
            | false =>
              clear CF
              go_upto_region 15 with fail
              refine wp_region_noPanic ?_
              refine wp_region_held_drew (S := (fun W => W.cell? ⟨w.heap.size + 2, i, none⟩ = some (.int .i64 ty))) (by kernel_rfl) K1 (fun hHeld => ?_)
              refine wpAnyH_take (i := 0) (v := .int .i64 (-q0)) rfl (by kernel_rfl) (by kernel_rfl) (by kernel_rfl) (fun _ _ _ h => h) (Or.inl ⟨by rfl, fun W hW => by ((try dsimp only at hW); go_simp)⟩) hHeld ?_
              try dsimp only [Act.put, List.setIfInBounds_toArray, List.set_cons_zero, List.set_cons_succ]
              refine wpAnyH_take (i := 1) (v := .slice (some ⟨w.heap.size + 2, 0, none⟩) 3 3) rfl (by kernel_rfl) (by kernel_rfl) (by kernel_rfl) (fun _ _ _ h => h) (Or.inl ⟨by rfl, fun W hW => by ((try dsimp only at hW); go_simp)⟩) hHeld ?_
              try dsimp only [Act.put, List.setIfInBounds_toArray, List.set_cons_zero, List.set_cons_succ]
              refine wpAnyH_take (i := 2) (v := .int .i64 (i : Int)) rfl (by kernel_rfl) (by kernel_rfl) (by kernel_rfl) (fun _ _ _ h => h) (Or.inl ⟨by rfl, fun W hW => by ((try dsimp only at hW); go_simp)⟩) hHeld ?_
              try dsimp only [Act.put, List.setIfInBounds_toArray, List.set_cons_zero, List.set_cons_succ]
              refine wpAnyH_take (i := 3) (v := .pointer (some ⟨w.heap.size + 2, i, none⟩)) rfl (by kernel_rfl) (by kernel_rfl) (by kernel_rfl) (fun _ _ _ h => h) (Or.inl ⟨by rfl, fun W hW => by ((try dsimp only at hW); go_simp)⟩) hHeld ?_
              try dsimp only [Act.put, List.setIfInBounds_toArray, List.set_cons_zero, List.set_cons_succ]
              refine wpAnyH_take (i := 4) (v := .int .i64 ty) rfl (by kernel_rfl) (by kernel_rfl) (by kernel_rfl) (fun _ _ _ h => h) (Or.inl ⟨by rfl, fun W hW => by ((try dsimp only at hW); go_simp)⟩) hHeld ?_
              try dsimp only [Act.put, List.setIfInBounds_toArray, List.set_cons_zero, List.set_cons_succ]
              refine wpAnyH_take (i := 5) (v := .agg #[.int .i64 2, .string ⟨#[]⟩, .int .i64 (-q0), .int .i64 ty, .int .i64 0]) rfl (by kernel_rfl) (by kernel_rfl) (by kernel_rfl) (fun _ _ _ h => h) (Or.inl ⟨by rfl, fun W hW => by ((try dsimp only at hW); go_simp)⟩) hHeld ?_
              try dsimp only [Act.put, List.setIfInBounds_toArray, List.set_cons_zero, List.set_cons_succ]
              refine wpAnyH_take (i := 6) (v := .int .i64 q1) rfl (by kernel_rfl) (by kernel_rfl) (by kernel_rfl) (fun _ _ _ h => h) (Or.inl ⟨by rfl, fun W hW => by ((try dsimp only at hW); go_simp)⟩) hHeld ?_
              try dsimp only [Act.put, List.setIfInBounds_toArray, List.set_cons_zero, List.set_cons_succ]
              refine wpAnyH_take (i := 7) (v := .bool false) rfl (by kernel_rfl) (by kernel_rfl) (by kernel_rfl) (fun _ _ _ h => h) (Or.inl ⟨by rfl, fun W hW => by ((try dsimp only at hW); go_simp)⟩) hHeld ?_
              try dsimp only [Act.put, List.setIfInBounds_toArray, List.set_cons_zero, List.set_cons_succ]
              refine wpAnyH_take (i := 8) (v := .bool false) rfl (by kernel_rfl) (by kernel_rfl) (by kernel_rfl) (fun _ _ _ h => h) (Or.inl ⟨by rfl, fun W hW => by ((try dsimp only at hW); go_simp)⟩) hHeld ?_
              try dsimp only [Act.put, List.setIfInBounds_toArray, List.set_cons_zero, List.set_cons_succ]
              refine wpAnyH_take (i := 9) (v := undef) rfl (by kernel_rfl) (by kernel_rfl) (by kernel_rfl) (fun _ _ _ h => h) (Or.inr ⟨by kernel_rfl, rfl⟩) hHeld ?_
              try dsimp only [Act.put, List.setIfInBounds_toArray, List.set_cons_zero, List.set_cons_succ]
              refine wpAnyH_take (i := 10) (v := undef) rfl (by kernel_rfl) (by kernel_rfl) (by kernel_rfl) (fun _ _ _ h => h) (Or.inr ⟨by kernel_rfl, rfl⟩) hHeld ?_
              try dsimp only [Act.put, List.setIfInBounds_toArray, List.set_cons_zero, List.set_cons_succ]
              refine wpAnyH_take (i := 11) (v := undef) rfl (by kernel_rfl) (by kernel_rfl) (by kernel_rfl) (fun _ _ _ h => h) (Or.inr ⟨by kernel_rfl, rfl⟩) hHeld ?_
              try dsimp only [Act.put, List.setIfInBounds_toArray, List.set_cons_zero, List.set_cons_succ]
              refine wpAnyH_take (i := 12) (v := undef) rfl (by kernel_rfl) (by kernel_rfl) (by kernel_rfl) (fun _ _ _ h => h) (Or.inr ⟨by kernel_rfl, rfl⟩) hHeld ?_
              try dsimp only [Act.put, List.setIfInBounds_toArray, List.set_cons_zero, List.set_cons_succ]
              refine wpAnyH_take (i := 13) (v := undef) rfl (by kernel_rfl) (by kernel_rfl) (by kernel_rfl) (fun _ _ _ h => h) (Or.inr ⟨by kernel_rfl, rfl⟩) hHeld ?_
              try dsimp only [Act.put, List.setIfInBounds_toArray, List.set_cons_zero, List.set_cons_succ]
              refine wpAnyH_take (i := 14) (v := undef) rfl (by kernel_rfl) (by kernel_rfl) (by kernel_rfl) (fun _ _ _ h => h) (Or.inr ⟨by kernel_rfl, rfl⟩) hHeld ?_
              try dsimp only [Act.put, List.setIfInBounds_toArray, List.set_cons_zero, List.set_cons_succ]
              refine wpAnyH_take (i := 15) (v := .bool false) rfl (by kernel_rfl) (by kernel_rfl) (by kernel_rfl) (fun _ _ _ h => h) (Or.inl ⟨by rfl, fun W hW => by ((try dsimp only at hW); go_simp)⟩) hHeld ?_
              try dsimp only [Act.put, List.setIfInBounds_toArray, List.set_cons_zero, List.set_cons_succ]
              refine wpAnyH_ready (rs := [16]) (by kernel_rfl) (by simp) ?_
              refine AllReadyH.cons rfl (fun K hK => ?_) AllReadyH.nil
              go_simp
              refine hK.out _ _ ?_ (fun hHeld => ?_)
              · first | (with_reducible assumption) | (with_reducible exact K1) | (with_reducible exact K2 _ _ _ _ _)
              clear hK K
              try dsimp only [Act.put, List.setIfInBounds_toArray, List.set_cons_zero, List.set_cons_succ]
              refine wpAnyH_take (i := 17) (oi := { dst := some 7, op := .assign (.tmp 77), type := 3, pos := _, after := _, guard := none }) (v := .int .i64 q1) rfl (by kernel_rfl) (by kernel_rfl) (by kernel_rfl) (fun _ _ _ h => h) (Or.inl ⟨by rfl, fun W hW => by ((try dsimp only at hW); go_simp)⟩) hHeld ?_
              try dsimp only [Act.put, List.setIfInBounds_toArray, List.set_cons_zero, List.set_cons_succ]
              refine wpAnyH_take (i := 18) (oi := { dst := some 8, op := .assign (.tmp 86), type := 4, pos := _, after := _, guard := none }) (v := .bool false) rfl (by kernel_rfl) (by kernel_rfl) (by kernel_rfl) (fun _ _ _ h => h) (Or.inl ⟨by rfl, fun W hW => by ((try dsimp only at hW); go_simp)⟩) hHeld ?_
              try dsimp only [Act.put, List.setIfInBounds_toArray, List.set_cons_zero, List.set_cons_succ]
              refine wpAnyH_done (by kernel_rfl) ?_ _
              refine NoPanic.normal ?_
              all_goals
                go_wp2
                refine bodyPost_ret (v := .tuple #[tkA (numT (-q0) ty) 0, .int .i64 q1, .bool false]) ?_ rfl ⟨⟨_, rfl, ?_⟩, ?_⟩
                · simp [results, Tryd.results47, go_sem, tkA, numT, k0, k1, k2, k3, k4]
                · rw [HT.out]; exact HO.out
                · exact (below5 HB.out (Nat.le_refl _) _ _ _ _ _).drew
            | true =>
              have cf := CF.out ((-q0))
              go_upto_region 15 with fail
              go_region_held3 (fun W => W.cell? ⟨w.heap.size + 2, i, none⟩ = some (.int .i64 ty)) (first | (with_reducible assumption) | (with_reducible exact K1) | (with_reducible exact K2 _ _ _ _ _)) (first | (go_at_call 54; refine (cf _).mono ?_; rintro e w6 ⟨rfl, rfl⟩))
              all_goals
                go_wp2
                refine bodyPost_ret (v := .tuple #[tkA (numT (-q0) ty) 0, .int .i64 q1, .bool (fitL ty (-q0))]) ?_ rfl ⟨⟨_, rfl, ?_⟩, ?_⟩
                · simp [results, Tryd.results47, go_sem, tkA, numT, k0, k1, k2, k3, k4]
                · rw [HT.out]; exact HO.out
                · exact (below5 HB.out (Nat.le_refl _) _ _ _ _ _).drew
          · have hhd : ¬ (l.drop k).head? = some 45 := fun h => hm (by
              by_cases hkl : k < l.length
              · rw [dropAt hkl] at h; exact ⟨hkl, Option.some.inj h⟩
              · rw [List.drop_of_length_le (by omega)] at h; cases h)
            by_cases hkl : k < l.length
            · have g1 : (k : Int) < (s.size : Int) := by have := hsz.out; omega
              have hix := HX.out k hkl
              have g4 : ((l[k].toNat : Int) == 45) = false := by rw [beq_eq_false_iff_ne]; exact fun e => hm ⟨hkl, UInt8.toNat_inj.1 (by show l[k].toNat = 45; omega)⟩
              have hx := byte_lt l[k]
              generalize (l[k].toNat : Int) = x at *
              obtain ⟨q0, q1, q2, hq, r0, r1⟩ := dig_form l.length (digs 10 2147483648 false 0 (l.drop k)) (fun n r h => digs_le h (by decide))
              have HO := hide (typedN_none (ty := ty) (m := l.drop k) (n' := q0) (fun n => (n : Int)) (by rw [typedN, if_neg hhd]; rfl) (by show q0 = ((q0.toNat : Nat) : Int); omega) hq)
              have cd := CD.out k hk
              rw [hq] at cd
              have kb : (k : Int) ≤ 65536 := by omega
              clear hq CD HX HWE hm hhd
              go_wp2_with fail
              refine (cd _).mono ?_
              rintro e w2 ⟨rfl, hw2⟩
              subst hw2
              clear cd hc
              clear hix hx g4
              have K1 : w2.drew.cell? ⟨w.heap.size + 2, i, none⟩ = some (.int .i64 ty) := (drew_cell _ _).trans hc2
              have K2 : ∀ a1 a2 a3 a4 a5, (((((w2.setCell ⟨w.heap.size, 0, none⟩ a1).setCell ⟨w.heap.size, 1, none⟩ a2).setCell ⟨w.heap.size, 2, none⟩ a3).setCell ⟨w.heap.size, 3, none⟩ a4).setCell ⟨w.heap.size, 4, none⟩ a5).drew.cell? ⟨w.heap.size + 2, i, none⟩ = some (.int .i64 ty) := fun a1 a2 a3 a4 a5 => (drew_cell _ _).trans (cell5 hc2 (by show w.heap.size + 2 ≠ w.heap.size; omega) a1 a2 a3 a4 a5)
              cases q2 with
              | false =>
                clear CF
                go_upto_region 15 with fail
                refine wp_region_noPanic ?_
                refine wp_region_held_drew (S := (fun W => W.cell? ⟨w.heap.size + 2, i, none⟩ = some (.int .i64 ty))) (by kernel_rfl) K1 (fun hHeld => ?_)
                refine wpAnyH_take (i := 0) (v := .int .i64 q0) rfl (by kernel_rfl) (by kernel_rfl) (by kernel_rfl) (fun _ _ _ h => h) (Or.inl ⟨by rfl, fun W hW => by ((try dsimp only at hW); go_simp)⟩) hHeld ?_
                try dsimp only [Act.put, List.setIfInBounds_toArray, List.set_cons_zero, List.set_cons_succ]
                refine wpAnyH_take (i := 1) (v := .slice (some ⟨w.heap.size + 2, 0, none⟩) 3 3) rfl (by kernel_rfl) (by kernel_rfl) (by kernel_rfl) (fun _ _ _ h => h) (Or.inl ⟨by rfl, fun W hW => by ((try dsimp only at hW); go_simp)⟩) hHeld ?_
                try dsimp only [Act.put, List.setIfInBounds_toArray, List.set_cons_zero, List.set_cons_succ]
                refine wpAnyH_take (i := 2) (v := .int .i64 (i : Int)) rfl (by kernel_rfl) (by kernel_rfl) (by kernel_rfl) (fun _ _ _ h => h) (Or.inl ⟨by rfl, fun W hW => by ((try dsimp only at hW); go_simp)⟩) hHeld ?_
                try dsimp only [Act.put, List.setIfInBounds_toArray, List.set_cons_zero, List.set_cons_succ]
                refine wpAnyH_take (i := 3) (v := .pointer (some ⟨w.heap.size + 2, i, none⟩)) rfl (by kernel_rfl) (by kernel_rfl) (by kernel_rfl) (fun _ _ _ h => h) (Or.inl ⟨by rfl, fun W hW => by ((try dsimp only at hW); go_simp)⟩) hHeld ?_
                try dsimp only [Act.put, List.setIfInBounds_toArray, List.set_cons_zero, List.set_cons_succ]
                refine wpAnyH_take (i := 4) (v := .int .i64 ty) rfl (by kernel_rfl) (by kernel_rfl) (by kernel_rfl) (fun _ _ _ h => h) (Or.inl ⟨by rfl, fun W hW => by ((try dsimp only at hW); go_simp)⟩) hHeld ?_
                try dsimp only [Act.put, List.setIfInBounds_toArray, List.set_cons_zero, List.set_cons_succ]
                refine wpAnyH_take (i := 5) (v := .agg #[.int .i64 2, .string ⟨#[]⟩, .int .i64 q0, .int .i64 ty, .int .i64 0]) rfl (by kernel_rfl) (by kernel_rfl) (by kernel_rfl) (fun _ _ _ h => h) (Or.inl ⟨by rfl, fun W hW => by ((try dsimp only at hW); go_simp)⟩) hHeld ?_
                try dsimp only [Act.put, List.setIfInBounds_toArray, List.set_cons_zero, List.set_cons_succ]
                refine wpAnyH_take (i := 6) (v := .int .i64 q1) rfl (by kernel_rfl) (by kernel_rfl) (by kernel_rfl) (fun _ _ _ h => h) (Or.inl ⟨by rfl, fun W hW => by ((try dsimp only at hW); go_simp)⟩) hHeld ?_
                try dsimp only [Act.put, List.setIfInBounds_toArray, List.set_cons_zero, List.set_cons_succ]
                refine wpAnyH_take (i := 7) (v := .bool false) rfl (by kernel_rfl) (by kernel_rfl) (by kernel_rfl) (fun _ _ _ h => h) (Or.inl ⟨by rfl, fun W hW => by ((try dsimp only at hW); go_simp)⟩) hHeld ?_
                try dsimp only [Act.put, List.setIfInBounds_toArray, List.set_cons_zero, List.set_cons_succ]
                refine wpAnyH_take (i := 8) (v := .bool false) rfl (by kernel_rfl) (by kernel_rfl) (by kernel_rfl) (fun _ _ _ h => h) (Or.inl ⟨by rfl, fun W hW => by ((try dsimp only at hW); go_simp)⟩) hHeld ?_
                try dsimp only [Act.put, List.setIfInBounds_toArray, List.set_cons_zero, List.set_cons_succ]
                refine wpAnyH_take (i := 9) (v := undef) rfl (by kernel_rfl) (by kernel_rfl) (by kernel_rfl) (fun _ _ _ h => h) (Or.inr ⟨by kernel_rfl, rfl⟩) hHeld ?_
                try dsimp only [Act.put, List.setIfInBounds_toArray, List.set_cons_zero, List.set_cons_succ]
                refine wpAnyH_take (i := 10) (v := undef) rfl (by kernel_rfl) (by kernel_rfl) (by kernel_rfl) (fun _ _ _ h => h) (Or.inr ⟨by kernel_rfl, rfl⟩) hHeld ?_
                try dsimp only [Act.put, List.setIfInBounds_toArray, List.set_cons_zero, List.set_cons_succ]
                refine wpAnyH_take (i := 11) (v := undef) rfl (by kernel_rfl) (by kernel_rfl) (by kernel_rfl) (fun _ _ _ h => h) (Or.inr ⟨by kernel_rfl, rfl⟩) hHeld ?_
                try dsimp only [Act.put, List.setIfInBounds_toArray, List.set_cons_zero, List.set_cons_succ]
                refine wpAnyH_take (i := 12) (v := undef) rfl (by kernel_rfl) (by kernel_rfl) (by kernel_rfl) (fun _ _ _ h => h) (Or.inr ⟨by kernel_rfl, rfl⟩) hHeld ?_
                try dsimp only [Act.put, List.setIfInBounds_toArray, List.set_cons_zero, List.set_cons_succ]
                refine wpAnyH_take (i := 13) (v := undef) rfl (by kernel_rfl) (by kernel_rfl) (by kernel_rfl) (fun _ _ _ h => h) (Or.inr ⟨by kernel_rfl, rfl⟩) hHeld ?_
                try dsimp only [Act.put, List.setIfInBounds_toArray, List.set_cons_zero, List.set_cons_succ]
                refine wpAnyH_take (i := 14) (v := undef) rfl (by kernel_rfl) (by kernel_rfl) (by kernel_rfl) (fun _ _ _ h => h) (Or.inr ⟨by kernel_rfl, rfl⟩) hHeld ?_
                try dsimp only [Act.put, List.setIfInBounds_toArray, List.set_cons_zero, List.set_cons_succ]
                refine wpAnyH_take (i := 15) (v := .bool false) rfl (by kernel_rfl) (by kernel_rfl) (by kernel_rfl) (fun _ _ _ h => h) (Or.inl ⟨by rfl, fun W hW => by ((try dsimp only at hW); go_simp)⟩) hHeld ?_
                try dsimp only [Act.put, List.setIfInBounds_toArray, List.set_cons_zero, List.set_cons_succ]
                refine wpAnyH_ready (rs := [16]) (by kernel_rfl) (by simp) ?_
                refine AllReadyH.cons rfl (fun K hK => ?_) AllReadyH.nil
                go_simp
                refine hK.out _ _ ?_ (fun hHeld => ?_)
                · first | (with_reducible assumption) | (with_reducible exact K1) | (with_reducible exact K2 _ _ _ _ _)
                clear hK K
                try dsimp only [Act.put, List.setIfInBounds_toArray, List.set_cons_zero, List.set_cons_succ]
                refine wpAnyH_take (i := 17) (oi := { dst := some 7, op := .assign (.tmp 77), type := 3, pos := _, after := _, guard := none }) (v := .int .i64 q1) rfl (by kernel_rfl) (by kernel_rfl) (by kernel_rfl) (fun _ _ _ h => h) (Or.inl ⟨by rfl, fun W hW => by ((try dsimp only at hW); go_simp)⟩) hHeld ?_
                try dsimp only [Act.put, List.setIfInBounds_toArray, List.set_cons_zero, List.set_cons_succ]
                refine wpAnyH_take (i := 18) (oi := { dst := some 8, op := .assign (.tmp 86), type := 4, pos := _, after := _, guard := none }) (v := .bool false) rfl (by kernel_rfl) (by kernel_rfl) (by kernel_rfl) (fun _ _ _ h => h) (Or.inl ⟨by rfl, fun W hW => by ((try dsimp only at hW); go_simp)⟩) hHeld ?_
                try dsimp only [Act.put, List.setIfInBounds_toArray, List.set_cons_zero, List.set_cons_succ]
                refine wpAnyH_done (by kernel_rfl) ?_ _
                refine NoPanic.normal ?_
                all_goals
                  go_wp2
                  refine bodyPost_ret (v := .tuple #[tkA (numT q0 ty) 0, .int .i64 q1, .bool false]) ?_ rfl ⟨⟨_, rfl, ?_⟩, ?_⟩
                  · simp [results, Tryd.results47, go_sem, tkA, numT, k0, k1, k2, k3, k4]
                  · rw [HT.out]; exact HO.out
                  · exact (below5 HB.out (Nat.le_refl _) _ _ _ _ _).drew
              | true =>
                have cf := CF.out (q0)
                go_upto_region 15 with fail
                go_region_held3 (fun W => W.cell? ⟨w.heap.size + 2, i, none⟩ = some (.int .i64 ty)) (first | (with_reducible assumption) | (with_reducible exact K1) | (with_reducible exact K2 _ _ _ _ _)) (first | (go_at_call 54; refine (cf _).mono ?_; rintro e w6 ⟨rfl, rfl⟩))
                all_goals
                  go_wp2
                  refine bodyPost_ret (v := .tuple #[tkA (numT q0 ty) 0, .int .i64 q1, .bool (fitL ty q0)]) ?_ rfl ⟨⟨_, rfl, ?_⟩, ?_⟩
                  · simp [results, Tryd.results47, go_sem, tkA, numT, k0, k1, k2, k3, k4]
                  · rw [HT.out]; exact HO.out
                  · exact (below5 HB.out (Nat.le_refl _) _ _ _ _ _).drew
            · have g1 : ¬ (k : Int) < (s.size : Int) := by have := hsz.out; omega
              obtain ⟨q0, q1, q2, hq, r0, r1⟩ := dig_form l.length (digs 10 2147483648 false 0 (l.drop k)) (fun n r h => digs_le h (by decide))
              have HO := hide (typedN_none (ty := ty) (m := l.drop k) (n' := q0) (fun n => (n : Int)) (by rw [typedN, if_neg hhd]; rfl) (by show q0 = ((q0.toNat : Nat) : Int); omega) hq)
              have cd := CD.out k hk
              rw [hq] at cd
              have kb : (k : Int) ≤ 65536 := by omega
              clear hq CD HX HWE hm hhd
              go_wp2_with fail
              refine (cd _).mono ?_
              rintro e w2 ⟨rfl, hw2⟩
              subst hw2
              clear cd hc
              have K1 : w2.drew.cell? ⟨w.heap.size + 2, i, none⟩ = some (.int .i64 ty) := (drew_cell _ _).trans hc2
              have K2 : ∀ a1 a2 a3 a4 a5, (((((w2.setCell ⟨w.heap.size, 0, none⟩ a1).setCell ⟨w.heap.size, 1, none⟩ a2).setCell ⟨w.heap.size, 2, none⟩ a3).setCell ⟨w.heap.size, 3, none⟩ a4).setCell ⟨w.heap.size, 4, none⟩ a5).drew.cell? ⟨w.heap.size + 2, i, none⟩ = some (.int .i64 ty) := fun a1 a2 a3 a4 a5 => (drew_cell _ _).trans (cell5 hc2 (by show w.heap.size + 2 ≠ w.heap.size; omega) a1 a2 a3 a4 a5)
              cases q2 with
              | false =>
                clear CF
                go_upto_region 15 with fail
                refine wp_region_noPanic ?_
                refine wp_region_held_drew (S := (fun W => W.cell? ⟨w.heap.size + 2, i, none⟩ = some (.int .i64 ty))) (by kernel_rfl) K1 (fun hHeld => ?_)
                refine wpAnyH_take (i := 0) (v := .int .i64 q0) rfl (by kernel_rfl) (by kernel_rfl) (by kernel_rfl) (fun _ _ _ h => h) (Or.inl ⟨by rfl, fun W hW => by ((try dsimp only at hW); go_simp)⟩) hHeld ?_
                try dsimp only [Act.put, List.setIfInBounds_toArray, List.set_cons_zero, List.set_cons_succ]
                refine wpAnyH_take (i := 1) (v := .slice (some ⟨w.heap.size + 2, 0, none⟩) 3 3) rfl (by kernel_rfl) (by kernel_rfl) (by kernel_rfl) (fun _ _ _ h => h) (Or.inl ⟨by rfl, fun W hW => by ((try dsimp only at hW); go_simp)⟩) hHeld ?_
                try dsimp only [Act.put, List.setIfInBounds_toArray, List.set_cons_zero, List.set_cons_succ]
                refine wpAnyH_take (i := 2) (v := .int .i64 (i : Int)) rfl (by kernel_rfl) (by kernel_rfl) (by kernel_rfl) (fun _ _ _ h => h) (Or.inl ⟨by rfl, fun W hW => by ((try dsimp only at hW); go_simp)⟩) hHeld ?_
                try dsimp only [Act.put, List.setIfInBounds_toArray, List.set_cons_zero, List.set_cons_succ]
                refine wpAnyH_take (i := 3) (v := .pointer (some ⟨w.heap.size + 2, i, none⟩)) rfl (by kernel_rfl) (by kernel_rfl) (by kernel_rfl) (fun _ _ _ h => h) (Or.inl ⟨by rfl, fun W hW => by ((try dsimp only at hW); go_simp)⟩) hHeld ?_
                try dsimp only [Act.put, List.setIfInBounds_toArray, List.set_cons_zero, List.set_cons_succ]
                refine wpAnyH_take (i := 4) (v := .int .i64 ty) rfl (by kernel_rfl) (by kernel_rfl) (by kernel_rfl) (fun _ _ _ h => h) (Or.inl ⟨by rfl, fun W hW => by ((try dsimp only at hW); go_simp)⟩) hHeld ?_
                try dsimp only [Act.put, List.setIfInBounds_toArray, List.set_cons_zero, List.set_cons_succ]
                refine wpAnyH_take (i := 5) (v := .agg #[.int .i64 2, .string ⟨#[]⟩, .int .i64 q0, .int .i64 ty, .int .i64 0]) rfl (by kernel_rfl) (by kernel_rfl) (by kernel_rfl) (fun _ _ _ h => h) (Or.inl ⟨by rfl, fun W hW => by ((try dsimp only at hW); go_simp)⟩) hHeld ?_
                try dsimp only [Act.put, List.setIfInBounds_toArray, List.set_cons_zero, List.set_cons_succ]
                refine wpAnyH_take (i := 6) (v := .int .i64 q1) rfl (by kernel_rfl) (by kernel_rfl) (by kernel_rfl) (fun _ _ _ h => h) (Or.inl ⟨by rfl, fun W hW => by ((try dsimp only at hW); go_simp)⟩) hHeld ?_
                try dsimp only [Act.put, List.setIfInBounds_toArray, List.set_cons_zero, List.set_cons_succ]
                refine wpAnyH_take (i := 7) (v := .bool false) rfl (by kernel_rfl) (by kernel_rfl) (by kernel_rfl) (fun _ _ _ h => h) (Or.inl ⟨by rfl, fun W hW => by ((try dsimp only at hW); go_simp)⟩) hHeld ?_
                try dsimp only [Act.put, List.setIfInBounds_toArray, List.set_cons_zero, List.set_cons_succ]
                refine wpAnyH_take (i := 8) (v := .bool false) rfl (by kernel_rfl) (by kernel_rfl) (by kernel_rfl) (fun _ _ _ h => h) (Or.inl ⟨by rfl, fun W hW => by ((try dsimp only at hW); go_simp)⟩) hHeld ?_
                try dsimp only [Act.put, List.setIfInBounds_toArray, List.set_cons_zero, List.set_cons_succ]
                refine wpAnyH_take (i := 9) (v := undef) rfl (by kernel_rfl) (by kernel_rfl) (by kernel_rfl) (fun _ _ _ h => h) (Or.inr ⟨by kernel_rfl, rfl⟩) hHeld ?_
                try dsimp only [Act.put, List.setIfInBounds_toArray, List.set_cons_zero, List.set_cons_succ]
                refine wpAnyH_take (i := 10) (v := undef) rfl (by kernel_rfl) (by kernel_rfl) (by kernel_rfl) (fun _ _ _ h => h) (Or.inr ⟨by kernel_rfl, rfl⟩) hHeld ?_
                try dsimp only [Act.put, List.setIfInBounds_toArray, List.set_cons_zero, List.set_cons_succ]
                refine wpAnyH_take (i := 11) (v := undef) rfl (by kernel_rfl) (by kernel_rfl) (by kernel_rfl) (fun _ _ _ h => h) (Or.inr ⟨by kernel_rfl, rfl⟩) hHeld ?_
                try dsimp only [Act.put, List.setIfInBounds_toArray, List.set_cons_zero, List.set_cons_succ]
                refine wpAnyH_take (i := 12) (v := undef) rfl (by kernel_rfl) (by kernel_rfl) (by kernel_rfl) (fun _ _ _ h => h) (Or.inr ⟨by kernel_rfl, rfl⟩) hHeld ?_
                try dsimp only [Act.put, List.setIfInBounds_toArray, List.set_cons_zero, List.set_cons_succ]
                refine wpAnyH_take (i := 13) (v := undef) rfl (by kernel_rfl) (by kernel_rfl) (by kernel_rfl) (fun _ _ _ h => h) (Or.inr ⟨by kernel_rfl, rfl⟩) hHeld ?_
                try dsimp only [Act.put, List.setIfInBounds_toArray, List.set_cons_zero, List.set_cons_succ]
                refine wpAnyH_take (i := 14) (v := undef) rfl (by kernel_rfl) (by kernel_rfl) (by kernel_rfl) (fun _ _ _ h => h) (Or.inr ⟨by kernel_rfl, rfl⟩) hHeld ?_
                try dsimp only [Act.put, List.setIfInBounds_toArray, List.set_cons_zero, List.set_cons_succ]
                refine wpAnyH_take (i := 15) (v := .bool false) rfl (by kernel_rfl) (by kernel_rfl) (by kernel_rfl) (fun _ _ _ h => h) (Or.inl ⟨by rfl, fun W hW => by ((try dsimp only at hW); go_simp)⟩) hHeld ?_
                try dsimp only [Act.put, List.setIfInBounds_toArray, List.set_cons_zero, List.set_cons_succ]
                refine wpAnyH_ready (rs := [16]) (by kernel_rfl) (by simp) ?_
                refine AllReadyH.cons rfl (fun K hK => ?_) AllReadyH.nil
                go_simp
                refine hK.out _ _ ?_ (fun hHeld => ?_)
                · first | (with_reducible assumption) | (with_reducible exact K1) | (with_reducible exact K2 _ _ _ _ _)
                clear hK K
                try dsimp only [Act.put, List.setIfInBounds_toArray, List.set_cons_zero, List.set_cons_succ]
                refine wpAnyH_take (i := 17) (oi := { dst := some 7, op := .assign (.tmp 77), type := 3, pos := _, after := _, guard := none }) (v := .int .i64 q1) rfl (by kernel_rfl) (by kernel_rfl) (by kernel_rfl) (fun _ _ _ h => h) (Or.inl ⟨by rfl, fun W hW => by ((try dsimp only at hW); go_simp)⟩) hHeld ?_
                try dsimp only [Act.put, List.setIfInBounds_toArray, List.set_cons_zero, List.set_cons_succ]
                refine wpAnyH_take (i := 18) (oi := { dst := some 8, op := .assign (.tmp 86), type := 4, pos := _, after := _, guard := none }) (v := .bool false) rfl (by kernel_rfl) (by kernel_rfl) (by kernel_rfl) (fun _ _ _ h => h) (Or.inl ⟨by rfl, fun W hW => by ((try dsimp only at hW); go_simp)⟩) hHeld ?_
                try dsimp only [Act.put, List.setIfInBounds_toArray, List.set_cons_zero, List.set_cons_succ]
                refine wpAnyH_done (by kernel_rfl) ?_ _
                refine NoPanic.normal ?_
                all_goals
                  go_wp2
                  refine bodyPost_ret (v := .tuple #[tkA (numT q0 ty) 0, .int .i64 q1, .bool false]) ?_ rfl ⟨⟨_, rfl, ?_⟩, ?_⟩
                  · simp [results, Tryd.results47, go_sem, tkA, numT, k0, k1, k2, k3, k4]
                  · rw [HT.out]; exact HO.out
                  · exact (below5 HB.out (Nat.le_refl _) _ _ _ _ _).drew
              | true =>
                have cf := CF.out (q0)
                go_upto_region 15 with fail
                go_region_held3 (fun W => W.cell? ⟨w.heap.size + 2, i, none⟩ = some (.int .i64 ty)) (first | (with_reducible assumption) | (with_reducible exact K1) | (with_reducible exact K2 _ _ _ _ _)) (first | (go_at_call 54; refine (cf _).mono ?_; rintro e w6 ⟨rfl, rfl⟩))
                all_goals
                  go_wp2
                  refine bodyPost_ret (v := .tuple #[tkA (numT q0 ty) 0, .int .i64 q1, .bool (fitL ty q0)]) ?_ rfl ⟨⟨_, rfl, ?_⟩, ?_⟩
                  · simp [results, Tryd.results47, go_sem, tkA, numT, k0, k1, k2, k3, k4]
                  · rw [HT.out]; exact HO.out
                  · exact (below5 HB.out (Nat.le_refl _) _ _ _ _ _).drew
        · rw [decide_eq_false hw] at he
          have HN : Hid (∀ j, j < i + 1 → word ≠ wordP j) := fun j hj => by
            by_cases hji : j = i
            · rw [hji]; exact hw
            · exact hh.out j (by omega)
          generalize (⟨(wordP i).toArray⟩ : ByteArray) = u at *
          clear hh CD HX HC HC2 hw hc2 HT1 hty
          go_wp2
          go_roundw
          case rel => exact ⟨i + 1, by omega, rfl, by go_num, trivial, HN.out⟩
          case measure => simp only [intOf]; omega
      · obtain rfl : i = 3 := by omega
        have HT := hide (typedL_no (l := l.drop k) HT0.out hh.out)
        clear hh CD HX HC HC2 HWE h3
        go_wp2
        refine bodyPost_ret (v := .tuple #[tkA ⟨0, [], 0, 0⟩ 0, .int .i64 0, .bool false]) ?_ rfl ⟨⟨_, rfl, ?_⟩, ?_⟩
        · simp [results, Tryd.results47, go_sem, tkA, k0, k1, k2, k3, k4]
        · rw [HT.out]; exact ⟨_, _, rfl⟩
        · exact below5 HB.out (Nat.le_refl _) _ _ _ _ _
end Go.Proofs.YtfcnbiikjopajaaDoor
