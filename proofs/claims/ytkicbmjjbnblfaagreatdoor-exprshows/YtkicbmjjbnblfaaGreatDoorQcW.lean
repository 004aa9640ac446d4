/- The contract of the document's Check. -/
import Derived.Test.YtkicbmjjbnblfaaGreatDoorQwA
import Derived.Test.YtkicbmjjbnblfaaGreatDoorQmW
namespace Go.Proofs.YtkicbmjjbnblfaaGreatDoor
open Go.RowKit
theorem qmay_v (x : Pv) (w : World) : Calls Tryz.prog 25 #[.agg #[.int .i64 x.k, .int .i64 x.n, .int .i64 x.t, .string x.s, .string x.f]] w fun e w' => e = .returned (.bool (mayP (ptV x))) ∧ Below w.heap.size w w' := by
  have h := qmay_any x.k x.n x.t x.s.data.toList x.f.data.toList w
  rw [text_back, text_back] at h
  exact h
set_option maxRecDepth 100000 in
set_option maxHeartbeats 3200000 in
theorem qCheck_any (v : Value) (x : List Pv) (w : World) (hL : PLst w v x) (hlen : x.length ≤ 4398046510976) : Calls Tryz.prog 10 #[v] w fun e w' => e = .returned (.int .i64 (checkP (x.map ptV))) ∧ Below w.heap.size w w' := by
  have HPL := hide hL
  obtain ⟨a, b, off, cap, rfl, hA, hI⟩ := hL
  by_cases h5 : 500 < x.length
  · have HE : Hid (checkP (x.map ptV) = 2) := by show _ = _; unfold checkP; rw [if_pos (by rw [List.length_map]; exact h5)]
    have i1 : (500 : Int) < (x.length : Int) := by omega
    have i2 : (x.length : Int) ≤ 4398046510976 := by omega
    clear hA hI h5 hlen HPL
    generalize x.length = N at *
    go_enter Tryz.func10, Tryz.ntmps10
    go_wp2
    go_ret
    exact ⟨by rw [HE.out]; rfl, Below.refl _ _⟩
  have HA := hide hA
  have HI := hide hI
  have HX5 : Hid (¬ 500 < (x.map ptV).length) := by show ¬ _; rw [List.length_map]; exact h5
  have HDO : Hid (∀ W, Below w.heap.size w W → Calls Tryz.prog 26 #[.slice a x.length cap] W fun e w' => e = .returned (.int .i64 ((depth (x.map ptV) : Nat) : Int)) ∧ Below W.heap.size W w') := fun W hW => qDepth_any _ x W (HPL.out.below hW (Nat.le_refl _)) (by omega)
  obtain ⟨N, hN⟩ : ∃ N, N = x.length := ⟨_, rfl⟩
  have HN := hide hN
  rw [← hN] at h5 HDO ⊢
  have n5 : ¬ (500 : Int) < (N : Int) := by omega
  have n0 : (0 : Int) ≤ (N : Int) := by omega
  clear hN hA hI hlen HPL
  go_enter Tryz.func10, Tryz.ntmps10
  go_wp2_with fail
  go_loopw [3] (fun i wr => ∃ (k : Nat), k ≤ N ∧ i = .int .i64 (k : Int) ∧ Hid ((∀ (j : Nat) p, j < k → (x.map ptV)[j]? = some p → mayP p = true) ∧ Below w.heap.size w wr)) (fun i _ => N - (intOf i).toNat)
  case atStart => exact ⟨0, by omega, rfl, fun j p hj => absurd hj (Nat.not_lt_zero _), Below.refl _ _⟩
  case round =>
    obtain ⟨k, hk, rfl, hh⟩ := hrel
    have HM := hide hh.out.1
    have HB := hide hh.out.2
    clear hh
    by_cases hlt : k < N
    · have j1 : (k : Int) < (N : Int) := by omega
      have j0 : (0 : Int) ≤ (k : Int) := by omega
      obtain ⟨y, hy⟩ : ∃ y, x[k]? = some y := ⟨_, List.getElem?_eq_getElem (by rw [← HN.out]; exact hlt)⟩
      have HY : Hid ((x.map ptV)[k]? = some (ptV y)) := by show _ = _; rw [List.getElem?_map, hy]; rfl
      obtain ⟨hbw, rfl⟩ := HA.out (by rw [← HN.out]; omega)
      obtain ⟨q0, q1, q2, q3, q4⟩ := HI.out k y hy
      have c0 := (HB.out.cell (p := ⟨b, off + k * 5, none⟩) hbw).trans q0
      have c1 := (HB.out.cell (p := ⟨b, off + k * 5 + 1, none⟩) hbw).trans q1
      have c2 := (HB.out.cell (p := ⟨b, off + k * 5 + 2, none⟩) hbw).trans q2
      have c3 := (HB.out.cell (p := ⟨b, off + k * 5 + 3, none⟩) hbw).trans q3
      have c4 := (HB.out.cell (p := ⟨b, off + k * 5 + 4, none⟩) hbw).trans q4
      clear q0 q1 q2 q3 q4 hy
      have m2 := qmay_v y wr
      go_wp2_with fail
      refine m2.mono ?_
      rintro e w2 ⟨rfl, hb2⟩
      have BB2 := hide (HB.out.trans (hb2.mono HB.out.size))
      clear m2 hb2 c0 c1 c2 c3 c4
      cases hm : mayP (ptV y) with
      | false =>
        have HE := hide (check_may HX5.out HY.out hm)
        go_wp2
        go_ret
        exact ⟨by rw [HE.out]; rfl, BB2.out⟩
      | true =>
        have HMM := hide hm
        have HNM : Hid (∀ (j : Nat) p, j < k + 1 → (x.map ptV)[j]? = some p → mayP p = true) := fun j p hj hp => by
          rcases Nat.lt_or_ge j k with h | h
          · exact HM.out j p h hp
          · have : j = k := by omega
            subst this
            rw [← Option.some.inj (HY.out.symm.trans hp)]
            exact HMM.out
        clear hm HMM HM
        go_wp2
        go_roundw
        case rel => exact ⟨k + 1, by omega, by go_num, HNM.out, BB2.out⟩
        case measure => simp [intOf]; omega
    · obtain rfl : k = N := by omega
      have HMM : Hid ((x.map ptV).all mayP = true) := by
        show _ = _
        rw [List.all_eq_true]
        intro p hp
        obtain ⟨i, hi⟩ := List.mem_iff_getElem?.1 hp
        exact HM.out i p (by have := (List.getElem?_eq_some_iff.1 hi).1; rw [List.length_map, ← HN.out] at this; exact this) hi
      have c9 := HDO.out wr HB.out
      have HZ : Hid (checkP (x.map ptV) = if depth (x.map ptV) = 0 ∨ 24 < depth (x.map ptV) then 60 else 0) := by
        show _ = _
        unfold checkP
        rw [if_neg HX5.out, if_neg (by rw [HMM.out]; decide)]
      have HDEP : Hid (depth (x.map ptV) ≤ 500) := by show _ ≤ _; exact Nat.le_trans (depth_le_len _) (by have := HX5.out; omega)
      obtain ⟨dd, hdd⟩ : ∃ dd, dd = depth (x.map ptV) := ⟨_, rfl⟩
      rw [← hdd] at c9 HZ HDEP
      clear hdd HM HMM HDO
      have d5 : (dd : Int) ≤ 500 := by have := HDEP.out; omega
      have d0 : (0 : Int) ≤ (dd : Int) := by omega
      go_wp2_with fail
      refine c9.mono ?_
      rintro e w2 ⟨rfl, hb2⟩
      have BB2 := hide (HB.out.trans (hb2.mono HB.out.size))
      clear c9 hb2
      by_cases h0 : dd = 0
      · have HE : Hid (checkP (x.map ptV) = 60) := by show _ = _; rw [HZ.out, if_pos (.inl h0)]
        subst h0
        clear HZ
        go_wp2
        go_ret
        exact ⟨by rw [HE.out]; rfl, BB2.out⟩
      · have i1 : ((dd : Int) == 0) = false := by rw [beq_eq_false_iff_ne]; omega
        by_cases h24 : 24 < dd
        · have HE : Hid (checkP (x.map ptV) = 60) := by show _ = _; rw [HZ.out, if_pos (.inr h24)]
          have i2 : (24 : Int) < (dd : Int) := by omega
          clear HZ
          go_wp2
          go_ret
          exact ⟨by rw [HE.out]; rfl, BB2.out⟩
        · have HE : Hid (checkP (x.map ptV) = 0) := by show _ = _; rw [HZ.out, if_neg (by omega)]
          have i2 : ¬ (24 : Int) < (dd : Int) := by omega
          clear HZ
          go_wp2
          go_ret
          exact ⟨by rw [HE.out]; rfl, BB2.out⟩
end Go.Proofs.YtkicbmjjbnblfaaGreatDoor
