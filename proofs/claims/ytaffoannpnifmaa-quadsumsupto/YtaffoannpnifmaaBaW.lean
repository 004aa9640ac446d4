/- The walk of QuadBack. -/
import Derived.Test.YtaffoannpnifmaaBaP
import Derived.Test.YtaffoannpnifmaaWaW
namespace Go.Proofs.Ytaffoannpnifmaa
open Go.RowKit
theorem own_one (w : World) (base : Nat) (x : Int) (hb : base ≤ w.heap.size) : (w.alloc (.cells #[.int .i64 x] 3)).ownsRow base 3 1 (.slice (some ⟨w.heap.size, 0, none⟩) 1 1) 1 (intC [x]) :=
  World.ownsRow_lit (e := 3) (size := 1) w #[.int .i64 x] 1 hb (by decide) rfl
theorem ILst.owned1 {w : World} {base : Nat} {v : Value} {x : Int} {l : List Int} (h : w.ownsRow base 3 1 v (1 + l.length) (intC [x] ++ intC l)) : ILst w v (x :: l) := by
  rw [Nat.add_comm] at h
  exact ILst.of_owns (l := x :: l) h
set_option maxRecDepth 100000 in
set_option maxHeartbeats 3200000 in
theorem back_law (f : Int) (sv : Value) (l : List Int) (w : World) (hS : ILst w sv l) (hs : l.length * 8 ≤ 140737488351232) :
    Calls Try.prog 6 #[.int .i64 f, sv] w fun e w' => e = .returned (.bool true) ∧ Below w.heap.size w w' := by
  have mw := fun W => works_any W
  have HS := hide hS
  obtain ⟨a, b, off, cap, hsv, hA, hI⟩ := hS
  have HA := hide hA
  have HI := hide hI
  have m1 : Hid (∀ W, Below w.heap.size w W → Calls Try.prog 20 #[.int .i64 f, sv] W (WalkPost f l W)) := fun W h => walk_any f sv l W (HS.out.on h) (by omega)
  clear hA hI
  unfold WalkPost at m1
  obtain ⟨N, hN⟩ : ∃ N, N = l.length := ⟨_, rfl⟩
  have HN := hide hN
  cases hok : okW f l
  · rw [hok] at m1
    rw [← hN] at hsv
    subst hsv
    clear HS HA HI hN hs hok
    go_enter Try.func6, Try.ntmps6
    go_wp2_with (first | (go_at_call 17; refine (mw _).mono ?_; rintro e w1 ⟨rfl, hb1⟩) | (go_at_call 20; refine (m1.out _ hb1).mono ?_; rintro e w2 ⟨v2, rfl, hv2, hb2⟩; obtain ⟨a2, cap2, rfl⟩ := hv2.shape; simp only [Bool.false_eq_true, if_false, List.length_nil]))
    go_ret
    exact ⟨rfl, blw hb1 hb2⟩
  · rw [hok] at m1
    unfold okW at hok
    rw [Bool.and_eq_true] at hok
    obtain ⟨hf, hall⟩ := hok
    obtain ⟨F, hF, rfl⟩ := isP_nat hf
    have HF := hide hF
    have HALL := hide hall
    have hn : N ≤ 17592186043904 := by omega
    have n5 : (N : Int) ≤ 17592186043904 := by omega
    have n0 : (0 : Int) ≤ (N : Int) := by omega
    have HSM : Hid (∀ k, k ≤ N → -(k : Int) ≤ sm l k ∧ sm l k ≤ (k : Int)) := fun k hk => sm_in hall k (by omega)
    have m1' : Hid (∀ W, Below w.heap.size w W → Calls Try.prog 20 #[.int .i64 (F : Int), sv] W fun e w' => ∃ a2 cap2, e = .returned (.tuple #[.slice a2 N cap2, .int .i64 0]) ∧ ILst w' (.slice a2 N cap2) (walkL F l) ∧ Below W.heap.size W w') := fun W h => by
      refine (m1.out W h).mono ?_
      rintro e w' ⟨v', rfl, hv, hb⟩
      simp only [if_true, Int.toNat_natCast] at hv ⊢
      obtain ⟨a2, cap2, rfl⟩ := hv.shape
      rw [walkL_length, ← hN] at hv ⊢
      exact ⟨a2, cap2, rfl, hv, hb⟩
    have m2 : Hid (∀ W v, ILst W v ((F : Int) :: walkL F l) → Calls Try.prog 22 #[v] W fun e w' => e = .returned (.tuple #[.int .i64 (sm l N), .int .i64 0, .int .i64 0]) ∧ Below W.heap.size W w') := fun W v h => by
      have h := count_any v _ W h (by rw [List.length_cons, walkL_length]; omega)
      rw [cnt_walk hF hall, ← hN] at h; exact h
    have m3 : Hid (∀ q, N = q + 1 → ∀ W v, ILst W v (bkL l) → Calls Try.prog 20 #[.int .i64 ((wlk F l N : Nat) : Int), v] W fun e w' => ∃ b6 off6 cap6, e = .returned (.tuple #[.slice (some ⟨b6, off6, none⟩) N cap6, .int .i64 0]) ∧ w'.cell? ⟨b6, off6 + q, none⟩ = some (.int .i64 (F : Int)) ∧ Below W.heap.size W w') := fun q hq W v h => by
      have h := walk_any ((wlk F l N : Nat) : Int) v (bkL l) W h (by rw [bkL_length]; omega)
      have e : okW ((wlk F l N : Nat) : Int) (bkL l) = true := by unfold okW; rw [isP_of (wlk_lt hF l N), all_bk hall]; rfl
      unfold WalkPost at h
      rw [e] at h
      refine h.mono ?_
      rintro e w' ⟨v', rfl, hv, hb⟩
      simp only [if_true, Int.toNat_natCast] at hv ⊢
      obtain ⟨a6, b6, off6, cap6, rfl, hA6, hI6⟩ := hv
      rw [walkL_length, bkL_length, ← hN] at hA6 ⊢
      obtain ⟨_, rfl⟩ := hA6 (by omega)
      refine ⟨b6, off6, cap6, rfl, hI6 q _ ?_, hb⟩
      have := back_last hF hall (by omega)
      rw [← hN, show N - 1 = q from by omega] at this
      exact this
    have BW : Hid (((1 + (walkL F l).length) + (1 + (walkL F l).length) / 4 + 192) * 8 ≤ 281474976710656) := by show _ ≤ _; rw [walkL_length]; omega
    rw [← hN] at hsv
    subst hsv
    clear HS hN hs hf hall hF m1
    go_enter Try.func6, Try.ntmps6
    go_wp2_with (first | (go_at_call 17; refine (mw _).mono ?_; rintro e w1 ⟨rfl, hb1⟩) | (go_at_call 20; refine (m1'.out _ hb1).mono ?_; rintro e w2 ⟨a2, cap2, rfl, hv2, hb2⟩; have HV2 := hide hv2; have HB2 := hide (blw hb1 hb2); clear hv2 hb2))
    clear mw m1' hb1
    go_loopw [7, 8, 9, 30] (fun s o _ i wr => ∃ (k : Nat) (S : Int) (ov : Value), k ≤ N ∧ i = .int .i64 (k : Int) ∧ s = .int .i64 S ∧ ov = o ∧ Hid (S = sm l k ∧ wr.ownsRow w2.heap.size 3 1 ov k (intC ((bkL l).take k)) ∧ Below w2.heap.size w2 wr)) (fun _ _ _ i _ => N - (intOf i).toNat)
    case atStart => exact ⟨0, 0, .slice none 0 0, by omega, rfl, rfl, rfl, rfl, World.ownsRow_nil _ _ _ _, Below.refl _ _⟩
    case round =>
      obtain ⟨k, S, ov, hk, rfl, rfl, rfl, hh⟩ := hrel
      have s1 : -(k : Int) ≤ S ∧ S ≤ k := by rw [hh.out.1]; exact HSM.out k hk
      obtain ⟨s1, s2⟩ := s1
      have HSK := hide hh.out.1
      have HO := hide hh.out.2.1
      have HB := hide hh.out.2.2
      have HBW := hide (HB2.out.trans (HB.out.mono HB2.out.size))
      clear hh
      by_cases hlt : k < N
      · have j1 : (k : Int) < (N : Int) := by omega
        have j0 : (0 : Int) ≤ (k : Int) := by omega
        obtain ⟨z, hz⟩ : ∃ z, l[k]? = some z := ⟨_, List.getElem?_eq_getElem (by rw [← HN.out]; exact hlt)⟩
        obtain ⟨q, hq⟩ : ∃ q, q = N - 1 - k := ⟨_, rfl⟩
        have hq2 : (N : Int) - 1 - (k : Int) = (q : Int) := by omega
        have hq3 : (q : Int) < (N : Int) := by omega
        have hq4 : (0 : Int) ≤ (q : Int) := by omega
        obtain ⟨y, hy⟩ : ∃ y, l[q]? = some y := ⟨_, List.getElem?_eq_getElem (by rw [← HN.out]; omega)⟩
        obtain ⟨hbw, rfl⟩ := HA.out (by rw [← HN.out]; omega)
        have c0 := (HBW.out.cell (p := ⟨b, off + k, none⟩) hbw).trans (HI.out k z hz)
        have c1 := (HBW.out.cell (p := ⟨b, off + q, none⟩) hbw).trans (HI.out q y hy)
        have z1 := (isS_iff z).1 (List.all_eq_true.1 HALL.out z (List.mem_of_getElem? hz))
        have y1 := (isS_iff y).1 (List.all_eq_true.1 HALL.out y (List.mem_of_getElem? hy))
        have z2 : -1 ≤ z := by omega
        have z3 : z ≤ 1 := by omega
        have y2 : -1 ≤ y := by omega
        have y3 : y ≤ 1 := by omega
        have HSN : Hid (S + z = sm l (k + 1)) := by show _ = _; rw [sm, HSK.out, List.getD_eq_getElem?_getD, hz]; rfl
        have HBT := hide (bk_take l (k := k) (z := y) (by rw [← HN.out]; exact hlt) (by rw [← HN.out, ← hq]; exact hy))
        have hsz := HB.out.size
        obtain ⟨oa, ocap, hov, hoc⟩ := owns_slice HO.out
        subst hov
        clear hz hy z1 y1 hq
        go_wp2_with (first | (at_builtin; refine wpList_append_ints (by rfl) _ _ (by rfl) w2.heap.size k _ _ (by rfl) (HO.out.alloc _) _ _ (by rfl) (ILst.lit _ _) (by simp only [List.length_cons, List.length_nil]; omega) (by simp; omega) ?_; intro v' w3 hown3 hgr3))
        go_roundw
        case rel =>
          refine ⟨k + 1, _, v', by omega, by go_num, rfl, rfl, HSN.out, ?_, below_app (HB.out.alloc hsz _) (by simp; omega) (HO.out.alloc _) hgr3⟩
          rw [HBT.out, intC_append]
          exact hown3
        case measure => simp [intOf]; omega
      · have hkN : k = N := by omega
        subst hkN
        have hL : ILst wr ov (bkL l) := by
          have h4 := HO.out
          have e : k = (bkL l).length := by rw [bkL_length]; exact HN.out
          have e2 : (bkL l).take k = bkL l := by rw [e, List.take_length]
          rw [e2, e] at h4
          exact ILst.of_owns (base := w2.heap.size) h4
        have HL := hide hL
        obtain rfl : S = sm l k := HSK.out
        have i5 : ¬ (k : Int) < (k : Int) := by omega
        have HV3 := hide (HV2.out.on HB.out)
        generalize sm l k = T at *
        by_cases h0 : k = 0
        · subst h0
          clear hk hlt m3
          go_wp2_with (first | (at_builtin; refine wpList_append_ints (by rfl) _ _ (by rfl) wr.heap.size 1 _ _ (by rfl) (own_one _ _ _ (Nat.le_refl _)) _ (walkL F l) (by rfl) (HV3.out.on (blw_alloc (Below.refl _ _) _)) BW.out (by simp) ?_; intro v4 w4 hown4 hgr4; have hb4 := blw_app (blw_alloc (Below.refl _ _) _) (own_one _ _ _ (Nat.le_refl _)) hgr4) | (go_at_call 22; refine (m2.out _ _ (ILst.owned1 hown4)).mono ?_; rintro e w5 ⟨rfl, hb5⟩))
          go_ret
          exact ⟨rfl, HBW.out.trans ((blw hb4 hb5).mono HBW.out.size)⟩
        · obtain ⟨q, hq⟩ : ∃ q, k = q + 1 := ⟨k - 1, by omega⟩
          have M3 := hide (m3.out q hq)
          have h3 : Hid (∃ b2 off2, a2 = some ⟨b2, off2, none⟩ ∧ ∀ W, Below wr.heap.size wr W → W.cell? ⟨b2, off2 + q, none⟩ = some (.int .i64 ((wlk F l k : Nat) : Int))) := by
            obtain ⟨a6, b6, off6, cap6, e6, hA6, hI6⟩ := HV3.out
            rw [walkL_length, ← HN.out] at hA6
            obtain ⟨hlt6, rfl⟩ := hA6 (by omega)
            injection e6 with e6
            refine ⟨b6, off6, e6, fun W hW => (hW.cell (p := ⟨b6, off6 + q, none⟩) hlt6).trans (hI6 q _ ?_)⟩
            have := walk_last (f := F) l (by rw [← HN.out]; omega)
            rw [← HN.out, show k - 1 = q from by omega] at this
            exact this
          obtain ⟨b2, off2, rfl, hc2⟩ := h3.out
          have HC2 := hide hc2
          have q1 : (k : Int) - 1 = (q : Int) := by omega
          have q2 : (q : Int) < (k : Int) := by omega
          have q3 : (0 : Int) ≤ (q : Int) := by omega
          have q4 : ¬ (k : Int) = 0 := by omega
          clear h3 hc2 hk hlt m3 h0 hq s1 s2 i5
          have i5 : ((k : Int) < (k : Int)) = False := by simp
          go_wp2_with (first | (at_builtin; refine wpList_append_ints (by rfl) _ _ (by rfl) wr.heap.size 1 _ _ (by rfl) (own_one _ _ _ (Nat.le_refl _)) _ (walkL F l) (by rfl) (HV3.out.on (blw_alloc (Below.refl _ _) _)) BW.out (by simp) ?_; intro v4 w4 hown4 hgr4; have hb4 := blw_app (blw_alloc (Below.refl _ _) _) (own_one _ _ _ (Nat.le_refl _)) hgr4) | (go_at_call 22; refine (m2.out _ _ (ILst.owned1 hown4)).mono ?_; rintro e w5 ⟨rfl, hb5⟩; have c5 := HC2.out _ (blw hb4 hb5)) | (go_at_call 20; refine (M3.out _ _ (HL.out.on (blw hb4 hb5))).mono ?_; rintro e w6 ⟨b6, off6, cap6, rfl, c6, hb6⟩))
          go_ret
          exact ⟨rfl, HBW.out.trans ((blw (blw hb4 hb5) hb6).mono HBW.out.size)⟩
end Go.Proofs.Ytaffoannpnifmaa
