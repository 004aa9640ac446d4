/- The contracts of the document's Count and of SameInts. -/
import Derived.Test.YtaffoannpnifmaaLsW
namespace Go.Proofs.Ytaffoannpnifmaa
open Go.RowKit
theorem stepV_at {a b : Int} (ha : isP a = true) (hb : isP b = true) : stepV a b = (stp a.toNat b.toNat, if jmp a.toNat b.toNat then 110 else 0) := by unfold stepV; rw [ha, hb]; rfl
set_option maxRecDepth 100000 in
set_option maxHeartbeats 1600000 in
theorem refCount_any (v : Value) (l : List Int) (w : World) (hL : ILst w v l) (hlen : l.length ≤ 35184372088832) : Calls Try.prog 23 #[v] w fun e w' => e = .returned (.tuple #[.int .i64 (cntV l).1, .int .i64 (cntV l).2.1, .int .i64 (cntV l).2.2]) ∧ Below w.heap.size w w' := by
  obtain ⟨a, b, off, cap, rfl, hA, hI⟩ := hL
  have HA := hide hA
  have HI := hide hI
  obtain ⟨N, hN⟩ : ∃ N, N = l.length := ⟨_, rfl⟩
  have HN := hide hN
  rw [← hN] at hlen ⊢
  have n5 : (N : Int) ≤ 35184372088832 := by omega
  have n0 : (0 : Int) ≤ (N : Int) := by omega
  clear hN hA hI
  go_enter Try.func23, Try.ntmps23
  go_wp2_with fail
  go_loopw [7] (fun i wr => ∃ k : Nat, k ≤ N ∧ i = .int .i64 (k : Int) ∧ Hid ((l.take k).all isP = true ∧ wr = w)) (fun i _ => N - (intOf i).toNat)
  case atStart => exact ⟨0, by omega, rfl, rfl, rfl⟩
  case round =>
    obtain ⟨k, hk, rfl, hh⟩ := hrel
    obtain ⟨h1, rfl⟩ := hh.out
    have H1 := hide h1
    clear hh h1
    by_cases hlt : k < N
    · have j1 : (k : Int) < (N : Int) := by omega
      have j0 : (0 : Int) ≤ (k : Int) := by omega
      obtain ⟨z, hz⟩ : ∃ z, l[k]? = some z := ⟨_, List.getElem?_eq_getElem (by rw [← HN.out]; exact hlt)⟩
      have HZ := hide hz
      obtain ⟨hbw, rfl⟩ := HA.out (by rw [← HN.out]; omega)
      have c0 := HI.out k z hz
      have m1 := fun W => is_any z W
      clear hz
      cases hp : isP z
      · rw [hp] at m1
        have HC : Hid (cntV l = (0, 0, 1)) := by show _ = _; unfold cntV; rw [all_no HZ.out hp]; rfl
        clear hp
        go_wp2_with (first | (go_at_call 13; refine (m1 _).mono ?_; rintro e w1 ⟨rfl, rfl⟩))
        go_ret3
        exact ⟨by rw [HC.out]; rfl, Below.refl _ _⟩
      · rw [hp] at m1
        have HT := hide (all_take H1.out HZ.out hp)
        clear hp
        go_wp2_with (first | (go_at_call 13; refine (m1 _).mono ?_; rintro e w1 ⟨rfl, rfl⟩))
        go_roundw
        case rel => exact ⟨k + 1, by omega, by go_num, HT.out, trivial⟩
        case measure => simp [intOf]; omega
    · have i5 : ¬ (k : Int) < (N : Int) := by omega
      have hall : l.all isP = true := by
        have e : k = l.length := by rw [← HN.out]; omega
        have h4 := H1.out
        rwa [e, List.take_length] at h4
      have HALL := hide hall
      have HC : Hid (cntV l = (sS l N, (sJ l N : Int), 0)) := by
        show _ = _
        unfold cntV
        rw [if_pos hall, HN.out]
      clear hall hlt H1
      go_wp2_with fail
      go_loopw [5, 6, 8, 9, 10] (fun s j i _ _ wx => ∃ (k J : Nat) (S : Int), 1 ≤ k ∧ (k ≤ N ∨ k = 1) ∧ i = .int .i64 (k : Int) ∧ s = .int .i64 S ∧ j = .int .i64 (J : Int) ∧ Hid (S = sS l k ∧ J = sJ l k ∧ Below wr.heap.size wr wx)) (fun _ _ i _ _ _ => N - (intOf i).toNat)
      case atStart => exact ⟨1, 0, 0, by omega, .inr rfl, rfl, rfl, rfl, by rw [sS], by rw [sJ], Below.refl _ _⟩
      case round =>
        obtain ⟨m, J, S, hm1, hm, rfl, rfl, rfl, hh⟩ := hrel
        obtain ⟨hS, hJ, hwx⟩ := hh.out
        have HB := hide hwx
        clear hwx
        have s1 : -(m : Int) ≤ S ∧ S ≤ m := by rw [hS]; exact sS_in l m
        have s2 : (J : Int) ≤ m := by rw [hJ]; exact Int.ofNat_le.2 (sJ_in l m)
        obtain ⟨s1, s3⟩ := s1
        have HS := hide hS
        have HJ := hide hJ
        clear hh hS hJ
        by_cases hlt : m < N
        · obtain ⟨q, rfl⟩ : ∃ q, m = q + 1 := ⟨m - 1, by omega⟩
          have j1 : (q : Int) + 1 < (N : Int) := by omega
          have j0 : (0 : Int) ≤ (q : Int) := by omega
          have j2 : (q : Int) < (N : Int) := by omega
          obtain ⟨z, hz⟩ : ∃ z, l[q]? = some z := ⟨_, List.getElem?_eq_getElem (by rw [← HN.out]; omega)⟩
          obtain ⟨y, hy⟩ : ∃ y, l[q + 1]? = some y := ⟨_, List.getElem?_eq_getElem (by rw [← HN.out]; omega)⟩
          obtain ⟨hbw, rfl⟩ := HA.out (by rw [← HN.out]; omega)
          have c0 := (HB.out.cell (p := ⟨b, off + q, none⟩) hbw).trans (HI.out q z hz)
          have c1 := (HB.out.cell (p := ⟨b, off + (q + 1), none⟩) hbw).trans (HI.out (q + 1) y hy)
          have pz := List.all_eq_true.1 HALL.out z (List.mem_of_getElem? hz)
          have py := List.all_eq_true.1 HALL.out y (List.mem_of_getElem? hy)
          have m1 := fun W => refStep_any z y W
          rw [stepV_at pz py] at m1
          have d1 := stp_in z.toNat y.toNat
          have HS' : Hid (S + stp z.toNat y.toNat = sS l (q + 2)) := by show _ = _; rw [HS.out, sS, gt_at hz, gt_at hy]
          have HJ' : Hid (J + (if jmp z.toNat y.toNat then 1 else 0) = sJ l (q + 2)) := by show _ = _; rw [HJ.out, sJ, gt_at hz, gt_at hy]
          clear hz hy pz py HS HJ
          generalize stp z.toNat y.toNat = D at *
          generalize jmp z.toNat y.toNat = jj at *
          obtain ⟨d1, d2⟩ := d1
          cases jj
          all_goals
            dsimp only [Bool.false_eq_true, if_false, if_true] at m1
            go_wp2_with fail
            go_quiet (first | (go_at_call 16; refine Calls.quiet_of_same (m1 _)))
            go_wp2
            go_roundw
            case rel => exact ⟨q + 2, _, _, by omega, .inl (by omega), by go_num, rfl, by first | rfl | go_num, HS'.out, HJ'.out, below_drewN HB.out _⟩
            case measure => simp [intOf]; omega
        · have HE : Hid (cntV l = (S, (J : Int), 0)) := by
            show _ = _
            rw [HC.out, HS.out, HJ.out]
            rcases hm with hm | rfl
            · rw [show m = N from by omega]
            · rcases (show N = 0 ∨ N = 1 by omega) with rfl | rfl
              · rw [sS, sS, sJ, sJ]
              · rfl
          have i6 : ¬ (m : Int) < (N : Int) := by omega
          clear hlt
          go_wp2
          go_ret3
          exact ⟨by rw [HE.out]; rfl, HB.out⟩
set_option maxRecDepth 100000 in
set_option maxHeartbeats 1600000 in
/-- two slices of the same list -/
theorem same_any (u v : Value) (l : List Int) (w : World) (hU : ILst w u l) (hV : ILst w v l) (hlen : l.length ≤ 35184372088832) : Calls Try.prog 24 #[u, v] w fun e w' => e = .returned (.bool true) ∧ Below w.heap.size w w' := by
  obtain ⟨a, b, off, cap, rfl, hA, hI⟩ := hU
  obtain ⟨a2, b2, off2, cap2, rfl, hA2, hI2⟩ := hV
  have HA := hide hA
  have HI := hide hI
  have HA2 := hide hA2
  have HI2 := hide hI2
  obtain ⟨N, hN⟩ : ∃ N, N = l.length := ⟨_, rfl⟩
  have HN := hide hN
  rw [← hN] at hlen ⊢
  have n5 : (N : Int) ≤ 35184372088832 := by omega
  have n0 : (0 : Int) ≤ (N : Int) := by omega
  clear hN hA hI hA2 hI2
  go_enter Try.func24, Try.ntmps24
  go_wp2_with fail
  go_loopw [5] (fun i wr => ∃ k : Nat, k ≤ N ∧ i = .int .i64 (k : Int) ∧ Hid (Below w.heap.size w wr)) (fun i _ => N - (intOf i).toNat)
  case atStart => exact ⟨0, by omega, rfl, Below.refl _ _⟩
  case round =>
    obtain ⟨k, hk, rfl, HB⟩ := hrel
    by_cases hlt : k < N
    · have j1 : (k : Int) < (N : Int) := by omega
      have j0 : (0 : Int) ≤ (k : Int) := by omega
      obtain ⟨z, hz⟩ : ∃ z, l[k]? = some z := ⟨_, List.getElem?_eq_getElem (by rw [← HN.out]; exact hlt)⟩
      obtain ⟨hbw, rfl⟩ := HA.out (by rw [← HN.out]; omega)
      obtain ⟨hbw2, rfl⟩ := HA2.out (by rw [← HN.out]; omega)
      have c0 := (HB.out.cell (p := ⟨b, off + k, none⟩) hbw).trans (HI.out k z hz)
      have c1 := (HB.out.cell (p := ⟨b2, off2 + k, none⟩) hbw2).trans (HI2.out k z hz)
      clear hz
      go_wp2_with fail
      go_quiet (fail)
      go_wp2
      go_roundw
      case rel => exact ⟨k + 1, by omega, by go_num, below_drewN HB.out _⟩
      case measure => simp [intOf]; omega
    · have i5 : ¬ (k : Int) < (N : Int) := by omega
      go_wp2
      go_ret
      exact ⟨rfl, HB.out⟩
end Go.Proofs.Ytaffoannpnifmaa
