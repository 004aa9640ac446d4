/- The walk of QuadSums. -/
import Derived.Test.YtaffoannpnifmaaBaW
import Derived.Lib.QuietBelow
namespace Go.Proofs.Ytaffoannpnifmaa
open Go.RowKit Go.Sort
theorem gt_left {a b : List Int} {k : Nat} (h : k < a.length) : gt (a ++ b) k = gt a k := by
  unfold gt
  rw [List.getD_eq_getElem?_getD, List.getD_eq_getElem?_getD, List.getElem?_append_left h]
theorem gt_right (a b : List Int) (k : Nat) : gt (a ++ b) (a.length + k) = gt b k := by
  unfold gt
  rw [List.getD_eq_getElem?_getD, List.getD_eq_getElem?_getD, List.getElem?_append_right (by omega), show a.length + k - a.length = k from by omega]
theorem sS_two (l : List Int) (k : Nat) : sS l (k + 2) = sS l (k + 1) + stp (gt l k) (gt l (k + 1)) := by rw [sS]
theorem sJ_two (l : List Int) (k : Nat) : sJ l (k + 2) = sJ l (k + 1) + (if jmp (gt l k) (gt l (k + 1)) then 1 else 0) := by rw [sJ]
theorem sS_one (l : List Int) : sS l 1 = 0 := by rw [sS]
theorem sJ_one (l : List Int) : sJ l 1 = 0 := by rw [sJ]
theorem sS_left (a b : List Int) : ∀ k, k ≤ a.length → sS (a ++ b) k = sS a k ∧ sJ (a ++ b) k = sJ a k
  | 0, _ => by rw [sS, sS, sJ, sJ]; exact ⟨rfl, rfl⟩
  | 1, _ => by rw [sS, sS, sJ, sJ]; exact ⟨rfl, rfl⟩
  | k + 2, h => by
    have ih := sS_left a b (k + 1) (by omega)
    rw [sS_two, sS_two, sJ_two, sJ_two, ih.1, ih.2, gt_left (by omega), gt_left (by omega)]
    exact ⟨rfl, rfl⟩
theorem sS_join {a : List Int} (b : List Int) {q : Nat} (hq : a.length = q + 1) : ∀ j, sS (a ++ b) (a.length + (j + 1)) = sS a a.length + stp (gt a q) (gt b 0) + sS b (j + 1) ∧ sJ (a ++ b) (a.length + (j + 1)) = sJ a a.length + (if jmp (gt a q) (gt b 0) then 1 else 0) + sJ b (j + 1)
  | 0 => by
    have h := sS_left a b (q + 1) (by omega)
    have h0 := gt_right a b 0
    rw [hq] at h0
    rw [hq, show q + 1 + (0 + 1) = q + 2 from by omega, sS_two, sJ_two, h.1, h.2, gt_left (by omega), show q + 1 = q + 1 + 0 from rfl, h0, show 0 + 1 = 1 from rfl, sS_one, sJ_one]
    exact ⟨by omega, by omega⟩
  | j + 1 => by
    have ih := sS_join b hq j
    have h1 := gt_right a b j
    have h2 := gt_right a b (j + 1)
    rw [show a.length + (j + 1 + 1) = (a.length + j) + 2 from by omega, sS_two, sJ_two, show a.length + j + 1 = a.length + (j + 1) from by omega, ih.1, ih.2, h1, h2]
    rw [show j + 1 + 1 = j + 2 from by omega, sS_two, sJ_two]
    exact ⟨by omega, by omega⟩
theorem all_join (a b : List Int) : (a ++ b).all isP = (a.all isP && b.all isP) := List.all_append
/-- what two stretches count to together -/
theorem cnt_join {a b : List Int} (ha : a.all isP = true) (hb : b.all isP = true) : cntV (a ++ b) =
    (sS a a.length + (if 0 < a.length ∧ 0 < b.length then stp (gt a (a.length - 1)) (gt b 0) else 0) + sS b b.length, (((sJ a a.length + (if 0 < a.length ∧ 0 < b.length ∧ jmp (gt a (a.length - 1)) (gt b 0) = true then 1 else 0) + sJ b b.length : Nat)) : Int), 0) := by
  unfold cntV
  rw [all_join, ha, hb]
  simp only [Bool.and_self, if_true, List.length_append]
  by_cases h1 : 0 < a.length
  · by_cases h2 : 0 < b.length
    · obtain ⟨j, hj⟩ : ∃ j, b.length = j + 1 := ⟨b.length - 1, by omega⟩
      obtain ⟨q, hq⟩ : ∃ q, a.length = q + 1 := ⟨a.length - 1, by omega⟩
      have h := sS_join b hq j
      rw [hj, h.1, h.2, hq]
      simp
    · have e : b = [] := List.eq_nil_of_length_eq_zero (by omega)
      subst e
      simp [sS, sJ]
  · have e : a = [] := List.eq_nil_of_length_eq_zero (by omega)
    subst e
    simp [sS, sJ]
theorem cnt_bad {a : List Int} (h : a.all isP = false) : cntV a = (0, 0, 1) := by unfold cntV; rw [h]; rfl
theorem ILst.owned2 {w : World} {base : Nat} {v : Value} {a b : List Int} (h : w.ownsRow base 3 1 v (0 + a.length + b.length) ([] ++ intC a ++ intC b)) : ILst w v (a ++ b) := by
  rw [Nat.zero_add, List.nil_append, ← intC_append, ← List.length_append] at h
  exact ILst.of_owns h
theorem stp_sub (m n : Nat) : -1 ≤ stp m n ∧ stp m n ≤ 1 := stp_in m n
set_option maxRecDepth 100000 in
set_option maxHeartbeats 3200000 in
theorem sums_law (av : Value) (a : List Int) (bv : Value) (b : List Int) (w : World) (hA : ILst w av a) (ha : a.length ≤ 1048576) (hB : ILst w bv b) (hb : b.length ≤ 1048576) :
    Calls Try.prog 8 #[av, bv] w fun e w' => e = .returned (.bool true) ∧ Below w.heap.size w w' := by
  have mw := fun W => works_any W
  have HA := hide hA
  have HB := hide hB
  have BA : Hid (((0 + a.length) + (0 + a.length) / 4 + 192) * 8 ≤ 281474976710656) := by show _ ≤ _; omega
  have BB : Hid (((0 + a.length + b.length) + (0 + a.length + b.length) / 4 + 192) * 8 ≤ 281474976710656) := by show _ ≤ _; omega
  have m1 : Hid (∀ W, Below w.heap.size w W → Calls Try.prog 22 #[av] W fun e w' => e = .returned (.tuple #[.int .i64 (cntV a).1, .int .i64 (cntV a).2.1, .int .i64 (cntV a).2.2]) ∧ Below W.heap.size W w') := fun W h => count_any av a W (HA.out.on h) (by omega)
  have m2 : Hid (∀ W, Below w.heap.size w W → Calls Try.prog 22 #[bv] W fun e w' => e = .returned (.tuple #[.int .i64 (cntV b).1, .int .i64 (cntV b).2.1, .int .i64 (cntV b).2.2]) ∧ Below W.heap.size W w') := fun W h => count_any bv b W (HB.out.on h) (by omega)
  have m3 : Hid (∀ W v, ILst W v (a ++ b) → Calls Try.prog 22 #[v] W fun e w' => e = .returned (.tuple #[.int .i64 (cntV (a ++ b)).1, .int .i64 (cntV (a ++ b)).2.1, .int .i64 (cntV (a ++ b)).2.2]) ∧ Below W.heap.size W w') := fun W v h => count_any v _ W h (by rw [List.length_append]; omega)
  obtain ⟨aa, ab, aoff, acap, hav, hAA, hAI⟩ := hA
  obtain ⟨ba, bb, boff, bcap, hbv, hBA, hBI⟩ := hB
  have HAA := hide hAA
  have HAI := hide hAI
  have HBA := hide hBA
  have HBI := hide hBI
  clear hAA hAI hBA hBI
  subst hav hbv
  cases hpa : a.all isP
  · rw [cnt_bad hpa] at m1
    rw [cnt_bad (a := a ++ b) (by rw [all_join, hpa]; rfl)] at m3
    generalize cntV b = C at *
    obtain ⟨C1, C2, C3⟩ := C
    clear hpa ha hb
    go_enter Try.func8, Try.ntmps8
    go_wp2_with (first | (go_at_call 17; refine (mw _).mono ?_; rintro e w1 ⟨rfl, hb1⟩) | (go_at_call 22; first | (refine (m3.out _ _ (ILst.owned2 hown5)).mono ?_; rintro e w6 ⟨rfl, hb6⟩) | (refine (m2.out _ (blw hb1 hb2)).mono ?_; rintro e w3 ⟨rfl, hb3⟩; have HA3 := hide (HA.out.on (blw (blw hb1 hb2) hb3)); have HB3 := hide (HB.out.on (blw (blw hb1 hb2) hb3))) | (refine (m1.out _ hb1).mono ?_; rintro e w2 ⟨rfl, hb2⟩)) | (at_builtin; first | (refine wpList_append_ints (by rfl) _ _ (by rfl) w3.heap.size 0 _ _ (by rfl) (own_empty _ _ (Nat.le_refl _)) _ a (by rfl) (HA3.out.on (blw_alloc (Below.refl _ _) _)) BA.out (by simp) ?_; intro v4 w4 hown4 hgr4; have hb4 := blw_app (blw_alloc (Below.refl _ _) _) (own_empty _ _ (Nat.le_refl _)) hgr4) | (refine wpList_append_ints (by rfl) _ _ (by rfl) w3.heap.size (0 + a.length) _ _ (by rfl) hown4 _ b (by rfl) (HB3.out.on hb4) BB.out hb4.size ?_; intro v5 w5 hown5 hgr5; have hb5 := below_app hb4 hb4.size hown4 hgr5)))
    go_ret
    exact ⟨rfl, blw (blw (blw (blw hb1 hb2) hb3) hb5) hb6⟩
  · have ea : cntV a = (sS a a.length, (sJ a a.length : Int), 0) := by unfold cntV; rw [hpa]; rfl
    have s1 := sS_in a a.length
    have s2 := sJ_in a a.length
    cases hpb : b.all isP
    · rw [cnt_bad hpb] at m2
      rw [cnt_bad (a := a ++ b) (by rw [all_join, hpa, hpb]; rfl)] at m3
      rw [ea] at m1
      generalize sS a a.length = SA at *
      generalize (sJ a a.length : Int) = JA at *
      clear hpa hpb ha hb ea s1 s2
      go_enter Try.func8, Try.ntmps8
      go_wp2_with (first | (go_at_call 17; refine (mw _).mono ?_; rintro e w1 ⟨rfl, hb1⟩) | (go_at_call 22; first | (refine (m3.out _ _ (ILst.owned2 hown5)).mono ?_; rintro e w6 ⟨rfl, hb6⟩) | (refine (m2.out _ (blw hb1 hb2)).mono ?_; rintro e w3 ⟨rfl, hb3⟩; have HA3 := hide (HA.out.on (blw (blw hb1 hb2) hb3)); have HB3 := hide (HB.out.on (blw (blw hb1 hb2) hb3))) | (refine (m1.out _ hb1).mono ?_; rintro e w2 ⟨rfl, hb2⟩)) | (at_builtin; first | (refine wpList_append_ints (by rfl) _ _ (by rfl) w3.heap.size 0 _ _ (by rfl) (own_empty _ _ (Nat.le_refl _)) _ a (by rfl) (HA3.out.on (blw_alloc (Below.refl _ _) _)) BA.out (by simp) ?_; intro v4 w4 hown4 hgr4; have hb4 := blw_app (blw_alloc (Below.refl _ _) _) (own_empty _ _ (Nat.le_refl _)) hgr4) | (refine wpList_append_ints (by rfl) _ _ (by rfl) w3.heap.size (0 + a.length) _ _ (by rfl) hown4 _ b (by rfl) (HB3.out.on hb4) BB.out hb4.size ?_; intro v5 w5 hown5 hgr5; have hb5 := below_app hb4 hb4.size hown4 hgr5)))
      go_ret
      exact ⟨rfl, blw (blw (blw (blw hb1 hb2) hb3) hb5) hb6⟩
    · have eb : cntV b = (sS b b.length, (sJ b b.length : Int), 0) := by unfold cntV; rw [hpb]; rfl
      have s3 := sS_in b b.length
      have s4 := sJ_in b b.length
      rw [ea] at m1
      rw [eb] at m2
      rw [cnt_join hpa hpb] at m3
      by_cases h12 : 0 < a.length ∧ 0 < b.length
      · obtain ⟨q, hq⟩ : ∃ q, a.length = q + 1 := ⟨a.length - 1, by omega⟩
        have hgq : a.length - 1 = q := by omega
        obtain ⟨z, hz⟩ : ∃ z, a[q]? = some z := ⟨_, List.getElem?_eq_getElem (by omega)⟩
        obtain ⟨y, hy⟩ : ∃ y, b[0]? = some y := ⟨_, List.getElem?_eq_getElem (by omega)⟩
        have pz := List.all_eq_true.1 hpa z (List.mem_of_getElem? hz)
        have py := List.all_eq_true.1 hpb y (List.mem_of_getElem? hy)
        have n1 : Hid (∀ W dd os, Calls Try.prog 15 #[.int .i64 z, .int .i64 y] (grow (redrawn W dd) os) fun e w2 => e = .returned (.tuple #[.int .i64 (stp z.toNat y.toNat), .int .i64 (if jmp z.toNat y.toNat then 110 else 0)]) ∧ ∃ q : Regrown, w2 = grow (redrawn W q.d) q.os) := fun W dd os => by
          have h := step_any z y (grow (redrawn W dd) os)
          rw [stepV_at pz py] at h
          exact Calls.regrown_of h
        have d1 := stp_in z.toNat y.toNat
        simp only [h12, and_self, true_and, if_true] at m3
        rw [hgq, gt_at hz, gt_at hy] at m3
        obtain ⟨hab, rfl⟩ := HAA.out h12.1
        obtain ⟨hbb, rfl⟩ := HBA.out h12.2
        have HC : Hid (∀ W, Below w.heap.size w W → W.cell? ⟨ab, aoff + q, none⟩ = some (.int .i64 z) ∧ W.cell? ⟨bb, boff, none⟩ = some (.int .i64 y)) := fun W h => ⟨(h.cell (p := ⟨ab, aoff + q, none⟩) hab).trans (HAI.out q z hz), (h.cell (p := ⟨bb, boff, none⟩) hbb).trans (HBI.out 0 y hy)⟩
        obtain ⟨LA, hLA⟩ : ∃ LA, LA = a.length := ⟨_, rfl⟩
        obtain ⟨LB, hLB⟩ : ∃ LB, LB = b.length := ⟨_, rfl⟩
        generalize hSA : sS a a.length = SA at *
        generalize hJA : sJ a a.length = JA at *
        generalize hSB : sS b b.length = SB at *
        generalize hJB : sJ b b.length = JB at *
        generalize stp z.toNat y.toNat = D at *
        rw [← hLA] at s1 s2 hq ha HA m1 ⊢
        rw [← hLB] at s3 s4 hb HB m2 ⊢
        obtain ⟨s1, s1'⟩ := s1
        obtain ⟨s3, s3'⟩ := s3
        obtain ⟨d1, d2⟩ := d1
        have t1 : (LA : Int) ≤ 1048576 := by omega
        have t2 : (LB : Int) ≤ 1048576 := by omega
        have t3 : (JA : Int) ≤ 1048576 := by omega
        have t4 : (JB : Int) ≤ 1048576 := by omega
        have t5 : (0 : Int) < (LA : Int) := by omega
        have t6 : (0 : Int) < (LB : Int) := by omega
        have t7 : (LA : Int) - 1 = (q : Int) := by omega
        have t8 : (q : Int) < (LA : Int) := by omega
        have t9 : (0 : Int) ≤ (q : Int) := by omega
        clear hz hy pz py hpa hpb ea eb h12 hgq HAA HBA HAI HBI hSA hJA hSB hJB hq s2 s4 hLA hLB
        generalize jmp z.toNat y.toNat = jj at *
        cases jj
        all_goals
          first | simp only [Bool.false_eq_true, if_false, Nat.add_zero] at m3 n1 | simp only [if_true] at m3 n1
          go_enter Try.func8, Try.ntmps8
          go_wp2_with (first | (go_at_call 17; refine (mw _).mono ?_; rintro e w1 ⟨rfl, hb1⟩) | (go_at_call 22; first | (refine (m3.out _ _ (ILst.owned2 hown5)).mono ?_; rintro e w6 ⟨rfl, hb6⟩) | (refine (m2.out _ (blw hb1 hb2)).mono ?_; rintro e w3 ⟨rfl, hb3⟩; have HA3 := hide (HA.out.on (blw (blw hb1 hb2) hb3)); have HB3 := hide (HB.out.on (blw (blw hb1 hb2) hb3))) | (refine (m1.out _ hb1).mono ?_; rintro e w2 ⟨rfl, hb2⟩)) | (at_builtin; first | (refine wpList_append_ints (by rfl) _ _ (by rfl) w3.heap.size 0 _ _ (by rfl) (own_empty _ _ (Nat.le_refl _)) _ a (by rfl) (HA3.out.on (blw_alloc (Below.refl _ _) _)) BA.out (by simp) ?_; intro v4 w4 hown4 hgr4; have hb4 := blw_app (blw_alloc (Below.refl _ _) _) (own_empty _ _ (Nat.le_refl _)) hgr4) | (refine wpList_append_ints (by rfl) _ _ (by rfl) w3.heap.size (0 + a.length) _ _ (by rfl) hown4 _ b (by rfl) (HB3.out.on hb4) BB.out hb4.size ?_; intro v5 w5 hown5 hgr5; have hb5 := below_app hb4 hb4.size hown4 hgr5)))
          have hb7 := blw (blw (blw (blw hb1 hb2) hb3) hb5) hb6
          obtain ⟨c0, c1⟩ := HC.out w6 hb7
          have y0 : ∀ dd os, (grow (redrawn w6 dd) os).cell? ⟨ab, aoff + q, none⟩ = some (.int .i64 z) := cell_regrown c0
          have y1 : ∀ dd os, (grow (redrawn w6 dd) os).cell? ⟨bb, boff, none⟩ = some (.int .i64 y) := cell_regrown c1
          have HR : Hid (∀ dd os, Below w6.heap.size w6 (grow (redrawn w6 dd) os)) := fun dd os => below_regrown w6 dd os
          have n2 := n1.out w6
          have HB7 := hide hb7
          clear c0 c1 HC hb1 hb2 hb3 hb4 hb5 hb6 hb7 hown4 hown5 hgr4 hgr5 HA3 HB3 n1
          refine wp_region_quiet_below (by kernel_rfl) (by kernel_rfl) ?_
          repeat (go_big_quiet_step (first | (go_at_call 15; with_reducible exact n2 _ _)))
          refine wpQuiet_nil ?_
          intro _ hw'
          obtain ⟨⟨dq, osq⟩, hw''⟩ := hw'
          subst hw''
          have HR2 := hide (HR.out dq osq)
          clear y0 y1 n2 HR
          generalize grow (redrawn w6 dq) osq = w8 at *
          go_wp2
          go_ret
          exact ⟨rfl, blw HB7.out HR2.out⟩
      · have h2 : ¬ (0 < a.length ∧ 0 < b.length ∧ jmp (gt a (a.length - 1)) (gt b 0) = true) := fun h => h12 ⟨h.1, h.2.1⟩
        rw [if_neg h12, if_neg h2, Int.add_zero, Nat.add_zero, Int.natCast_add] at m3
        obtain ⟨LA, hLA⟩ : ∃ LA, LA = a.length := ⟨_, rfl⟩
        obtain ⟨LB, hLB⟩ : ∃ LB, LB = b.length := ⟨_, rfl⟩
        generalize hSA : sS a a.length = SA at *
        generalize hJA : sJ a a.length = JA at *
        generalize hSB : sS b b.length = SB at *
        generalize hJB : sJ b b.length = JB at *
        rw [← hLA] at s1 s2 ha h12 HA m1 ⊢
        rw [← hLB] at s3 s4 hb h12 HB m2 ⊢
        obtain ⟨s1, s1'⟩ := s1
        obtain ⟨s3, s3'⟩ := s3
        have t1 : (LA : Int) ≤ 1048576 := by omega
        have t2 : (LB : Int) ≤ 1048576 := by omega
        have t3 : (JA : Int) ≤ 1048576 := by omega
        have t4 : (JB : Int) ≤ 1048576 := by omega
        have t0 : (0 : Int) ≤ (LA : Int) := by omega
        have h3 : LA = 0 ∨ 0 < LA ∧ LB = 0 := by omega
        clear hpa hpb ea eb h2 h12 HAA HBA HAI HBI hSA hJA hSB hJB s2 s4 hLA hLB
        rcases h3 with rfl | ⟨h3, rfl⟩
        · go_enter Try.func8, Try.ntmps8
          go_wp2_with (first | (go_at_call 17; refine (mw _).mono ?_; rintro e w1 ⟨rfl, hb1⟩) | (go_at_call 22; first | (refine (m3.out _ _ (ILst.owned2 hown5)).mono ?_; rintro e w6 ⟨rfl, hb6⟩) | (refine (m2.out _ (blw hb1 hb2)).mono ?_; rintro e w3 ⟨rfl, hb3⟩; have HA3 := hide (HA.out.on (blw (blw hb1 hb2) hb3)); have HB3 := hide (HB.out.on (blw (blw hb1 hb2) hb3))) | (refine (m1.out _ hb1).mono ?_; rintro e w2 ⟨rfl, hb2⟩)) | (at_builtin; first | (refine wpList_append_ints (by rfl) _ _ (by rfl) w3.heap.size 0 _ _ (by rfl) (own_empty _ _ (Nat.le_refl _)) _ a (by rfl) (HA3.out.on (blw_alloc (Below.refl _ _) _)) BA.out (by simp) ?_; intro v4 w4 hown4 hgr4; have hb4 := blw_app (blw_alloc (Below.refl _ _) _) (own_empty _ _ (Nat.le_refl _)) hgr4) | (refine wpList_append_ints (by rfl) _ _ (by rfl) w3.heap.size (0 + a.length) _ _ (by rfl) hown4 _ b (by rfl) (HB3.out.on hb4) BB.out hb4.size ?_; intro v5 w5 hown5 hgr5; have hb5 := below_app hb4 hb4.size hown4 hgr5)))
          go_ret
          exact ⟨rfl, blw (blw (blw (blw hb1 hb2) hb3) hb5) hb6⟩
        · have t5 : (0 : Int) < (LA : Int) := by omega
          go_enter Try.func8, Try.ntmps8
          go_wp2_with (first | (go_at_call 17; refine (mw _).mono ?_; rintro e w1 ⟨rfl, hb1⟩) | (go_at_call 22; first | (refine (m3.out _ _ (ILst.owned2 hown5)).mono ?_; rintro e w6 ⟨rfl, hb6⟩) | (refine (m2.out _ (blw hb1 hb2)).mono ?_; rintro e w3 ⟨rfl, hb3⟩; have HA3 := hide (HA.out.on (blw (blw hb1 hb2) hb3)); have HB3 := hide (HB.out.on (blw (blw hb1 hb2) hb3))) | (refine (m1.out _ hb1).mono ?_; rintro e w2 ⟨rfl, hb2⟩)) | (at_builtin; first | (refine wpList_append_ints (by rfl) _ _ (by rfl) w3.heap.size 0 _ _ (by rfl) (own_empty _ _ (Nat.le_refl _)) _ a (by rfl) (HA3.out.on (blw_alloc (Below.refl _ _) _)) BA.out (by simp) ?_; intro v4 w4 hown4 hgr4; have hb4 := blw_app (blw_alloc (Below.refl _ _) _) (own_empty _ _ (Nat.le_refl _)) hgr4) | (refine wpList_append_ints (by rfl) _ _ (by rfl) w3.heap.size (0 + a.length) _ _ (by rfl) hown4 _ b (by rfl) (HB3.out.on hb4) BB.out hb4.size ?_; intro v5 w5 hown5 hgr5; have hb5 := below_app hb4 hb4.size hown4 hgr5)))
          go_ret
          exact ⟨rfl, blw (blw (blw (blw hb1 hb2) hb3) hb5) hb6⟩
end Go.Proofs.Ytaffoannpnifmaa
