/- The contracts of the program's digits and number. -/
import Derived.Test.YtkicbmjjbnblfaaGreatDoorDigW
namespace Go.Proofs.YtkicbmjjbnblfaaGreatDoor
open Go.RowKit
theorem drop_at {l : List UInt8} {k : Nat} (h : k < l.length) : l.drop k = l[k] :: l.drop (k + 1) := List.drop_eq_getElem_cons h
def pdOut (base : Nat) (l : Bs) : Value := .tuple #[.int .i64 (((pd base false 0 l).1 : Nat) : Int), .int .i64 ((l.length - (pd base false 0 l).2.length : Nat) : Int)]
set_option maxRecDepth 100000 in
set_option maxHeartbeats 3200000 in
theorem digits_any (l : Bs) (hl : l.length ≤ 140737488355328) (base : Nat) (h2 : 2 ≤ base) (h16 : base ≤ 16) (w : World) : Calls Tryz.prog 109 #[.string ⟨l.toArray⟩, .int .i64 (base : Int)] w fun e w' => e = .returned (pdOut base l) ∧ w' = w := by
  have d := fun c W => digitOf_any c base h2 h16 W
  have hidx : Hid (∀ k (h : k < l.length) W, (Instr.index 9 (.string ⟨l.toArray⟩) (.int .i64 (k : Int))).run Tryz.prog W = .ok (.int .u8 (l[k].toNat : Int)) W) := fun k h W => run_idx ⟨l.toArray⟩ k l[k] (List.getElem?_eq_getElem h) W
  have hsz := hide (list_size l)
  generalize (⟨l.toArray⟩ : ByteArray) = s at *
  have HB : Hid ((2 : Int) ≤ (base : Int) ∧ (base : Int) ≤ 16) := ⟨by omega, by omega⟩
  go_enter Tryz.func109, Tryz.ntmps109
  go_wp2_with fail
  go_loop [6, 7] (fun n i => ∃ k m : Nat, k ≤ l.length ∧ i = .int .i64 (k : Int) ∧ n = .int .i64 (m : Int) ∧ m ≤ 4294967296 ∧ pd base (decide (k ≠ 0)) m (l.drop k) = pd base false 0 l) (fun _ i => l.length - (intOf i).toNat)
  case atStart => exact ⟨0, 0, by omega, rfl, rfl, by omega, rfl⟩
  case round =>
    obtain ⟨k, m, hk, rfl, rfl, hm, hp⟩ := hrel
    by_cases hlt : k < l.length
    · have x0 := hidx.out k hlt
      have hd := d l[k]
      have i1 : (k : Int) < (s.size : Int) := by have := hsz.out; omega
      have hp' := hide hp
      rw [drop_at hlt] at hp'
      by_cases hw : worth l[k] < base
      · rw [digI_pos hw] at hd
        have hv0 : (0 : Int) ≤ ((worth l[k] : Nat) : Int) := by omega
        have hv1 : ((worth l[k] : Nat) : Int) < 16 := by omega
        have hq := hp'.out
        rw [pd, if_pos hw] at hq
        have HM : Hid (((min (m * base + worth l[k]) 4294967296 : Nat) : Int) = min ((m : Int) * (base : Int) + ((worth l[k] : Nat) : Int)) 4294967296) := by show _ = _; omega
        generalize worth l[k] = v at *
        generalize l[k] = c at *
        have hq := hide hq
        have b1 := HB.out
        have b2 : (m : Int) * (base : Int) ≤ 4294967296 * 16 := Int.mul_le_mul (by omega) b1.2 (by omega) (by omega)
        have b3 : 0 ≤ (m : Int) * (base : Int) := Int.mul_nonneg (by omega) (by omega)
        go_wp2_with fail
        refine (hd _).mono ?_
        rintro e w1 ⟨rfl, rfl⟩
        go_wp2
        refine ⟨⟨k + 1, min (m * base + v) 4294967296, by omega, by go_num, ?_, by omega, ?_⟩, ?_⟩
        · congr 1
          rw [HM.out]
          clear hidx d hd hp' hq hp
          split <;> omega
        · rw [decide_eq_true (by omega)]; exact hq.out
        · simp only [intOf]; omega
      · rw [digI_neg hw] at hd
        have stop : (decide (k ≠ 0) = true ∧ l[k] = 95 ∧ headW base (l.drop (k + 1)) = true) ∨ ¬ (decide (k ≠ 0) = true ∧ l[k] = 95 ∧ headW base (l.drop (k + 1)) = true) := Classical.em _
        rcases stop with hg | hg
        · obtain ⟨g1, g2, g3⟩ := hg
          have hk1 : k + 1 < l.length := by
            rcases Nat.lt_or_ge (k + 1) l.length with h | h
            · exact h
            · rw [List.drop_eq_nil_of_le h] at g3; cases g3
          have hw1 : worth l[k + 1] < base := by
            rw [drop_at hk1] at g3
            simpa [headW] using g3
          have hd1 := d l[k + 1]
          rw [digI_pos hw1] at hd1
          have x1 := hidx.out (k + 1) hk1
          rw [show ((k + 1 : Nat) : Int) = (k : Int) + 1 from by omega] at x1
          have hq := hp'.out
          rw [pd, if_neg hw, if_pos ⟨g1, g2, g3⟩] at hq
          have hq := hide hq
          have hk0 : ((k : Int) == 0) = false := by
            have := of_decide_eq_true g1
            rw [beq_eq_false_iff_ne]; omega
          have h95 : (l[k].toNat : Int) = 95 := by rw [g2]; rfl
          have j1 : ((k : Int) + 1 == (s.size : Int)) = false := by rw [beq_eq_false_iff_ne]; have := hsz.out; omega
          have hv0 : ¬ ((worth l[k + 1] : Nat) : Int) < 0 := by omega
          generalize ((worth l[k + 1] : Nat) : Int) = v at *
          generalize (l[k + 1].toNat : Int) = c1 at *
          rw [h95] at x0 hd
          clear g1 g2 g3 hw hw1 hp' hp h95
          go_wp2_with fail
          refine (hd _).mono ?_
          rintro e w1 ⟨rfl, rfl⟩
          go_wp2_with fail
          refine (hd1 _).mono ?_
          rintro e w1 ⟨rfl, rfl⟩
          go_wp2
          refine ⟨⟨k + 1, m, by omega, by go_num, rfl, hm, by rw [decide_eq_true (by omega)]; exact hq.out⟩, ?_⟩
          simp only [intOf]; omega
        · have hq := hp'.out
          rw [pd, if_neg hw, if_neg hg] at hq
          have HQ := hide (show pdOut base l = .tuple #[.int .i64 (m : Int), .int .i64 (k : Int)] by
            unfold pdOut
            rw [← hq]
            have : l.length - (l[k] :: l.drop (k + 1)).length = k := by rw [List.length_cons, List.length_drop]; omega
            rw [this])
          clear hq hp' hp
          by_cases g1 : k = 0
          · have hk0 : ((k : Int) == 0) = true := by rw [g1]; rfl
            generalize (l[k].toNat : Int) = c at *
            clear hg g1
            go_wp2_with fail
            refine (hd _).mono ?_
            rintro e w1 ⟨rfl, rfl⟩
            go_wp2
            go_ret2
            exact ⟨by rw [HQ.out]; rfl, rfl⟩
          · have hk0 : ((k : Int) == 0) = false := by rw [beq_eq_false_iff_ne]; omega
            by_cases g2 : l[k] = 95
            · have h95 : (l[k].toNat : Int) = 95 := by rw [g2]; rfl
              rw [h95] at x0 hd
              by_cases hk1 : k + 1 < l.length
              · have hw1 : ¬ worth l[k + 1] < base := fun h => hg ⟨decide_eq_true g1, g2, by rw [drop_at hk1]; exact decide_eq_true h⟩
                have hd1 := d l[k + 1]
                rw [digI_neg hw1] at hd1
                have x1 := hidx.out (k + 1) hk1
                rw [show ((k + 1 : Nat) : Int) = (k : Int) + 1 from by omega] at x1
                have j1 : ((k : Int) + 1 == (s.size : Int)) = false := by rw [beq_eq_false_iff_ne]; have := hsz.out; omega
                generalize (l[k + 1].toNat : Int) = c1 at *
                clear hg hw1 g2 h95
                go_wp2_with fail
                refine (hd _).mono ?_
                rintro e w1 ⟨rfl, rfl⟩
                go_wp2_with fail
                refine (hd1 _).mono ?_
                rintro e w1 ⟨rfl, rfl⟩
                go_wp2
                go_ret2
                exact ⟨by rw [HQ.out]; rfl, rfl⟩
              · have j1 : ((k : Int) + 1 == (s.size : Int)) = true := by rw [beq_iff_eq]; have := hsz.out; omega
                clear hg g2 h95
                go_wp2_with fail
                refine (hd _).mono ?_
                rintro e w1 ⟨rfl, rfl⟩
                go_wp2
                go_ret2
                exact ⟨by rw [HQ.out]; rfl, rfl⟩
            · have h95 : ¬ (l[k].toNat : Int) = 95 := fun h => g2 (u8_eq.2 h)
              generalize (l[k].toNat : Int) = c at *
              clear hg g2
              go_wp2_with fail
              refine (hd _).mono ?_
              rintro e w1 ⟨rfl, rfl⟩
              go_wp2
              go_ret2
              exact ⟨by rw [HQ.out]; rfl, rfl⟩
    · obtain rfl : k = l.length := by omega
      have i1 : ¬ (l.length : Int) < (s.size : Int) := by have := hsz.out; omega
      have HQ := hide (show pdOut base l = .tuple #[.int .i64 (m : Int), .int .i64 (l.length : Int)] by
        unfold pdOut
        rw [← hp, List.drop_length, pd]
        rfl)
      clear hp
      go_wp2
      go_ret2
      exact ⟨by rw [HQ.out]; rfl, rfl⟩
def numOut (base : Nat) (l : Bs) : Value := .tuple #[.int .i64 (((pd base false 0 l).1 : Nat) : Int), .int .i64 ((l.length - (pd base false 0 l).2.length : Nat) : Int), .bool (okP base l)]
set_option maxRecDepth 100000 in
set_option maxHeartbeats 1600000 in
theorem number_any (l : Bs) (hl : l.length ≤ 140737488355328) (base : Nat) (h2 : 2 ≤ base) (h16 : base ≤ 16) (w : World) : Calls Tryz.prog 99 #[.string ⟨l.toArray⟩, .int .i64 (base : Int)] w fun e w' => e = .returned (numOut base l) ∧ w' = w := by
  have c1 := fun W => digits_any l hl base h2 h16 W
  obtain ⟨k, hk, hd⟩ := pd_suf base l false 0
  have hz : l.length - (pd base false 0 l).2.length = k := by rw [hd, List.length_drop]; omega
  have c2 := fun W => goesOn_any (l.drop k) W
  have x1 : ∀ W, (Instr.slice 9 (.string ⟨l.toArray⟩) (some (.int .i64 (k : Int))) none none).run Tryz.prog W = .ok (.string ⟨(l.drop k).toArray⟩) W := fun W => slice_from ⟨l.toArray⟩ k (by rw [list_size]; exact hk) W
  have HQ := hide (show numOut base l = .tuple #[.int .i64 (((pd base false 0 l).1 : Nat) : Int), .int .i64 (k : Int), .bool (decide (0 < (k : Int)) && !(goesOn (l.drop k)))] by
    unfold numOut okP
    rw [hz, hd]
    rw [show decide ((List.drop k l).length < l.length) = decide (0 < (k : Int)) by
      rw [Bool.eq_iff_iff, decide_eq_true_eq, decide_eq_true_eq, List.length_drop]
      omega])
  unfold pdOut at c1
  rw [hz] at c1
  generalize (⟨(l.drop k).toArray⟩ : ByteArray) = u at *
  generalize (⟨l.toArray⟩ : ByteArray) = s at *
  generalize goesOn (l.drop k) = g at *
  generalize (((pd base false 0 l).1 : Nat) : Int) = m at *
  clear hz hd hk
  have hk0 : 0 ≤ (k : Int) := by omega
  generalize (k : Int) = K at *
  go_enter Tryz.func99, Tryz.ntmps99
  go_wp2_with fail
  refine (c1 _).mono ?_
  rintro e w1 ⟨rfl, rfl⟩
  by_cases h0 : 0 < K
  · go_wp2_with fail
    refine (c2 _).mono ?_
    rintro e w1 ⟨rfl, rfl⟩
    go_wp2
    refine bodyPost_ret (v := numOut base l) ?_ rfl ⟨rfl, rfl⟩
    rw [HQ.out]
    simp [results, Tryz.results99, go_sem, h0]
  · go_wp2
    refine bodyPost_ret (v := numOut base l) ?_ rfl ⟨rfl, rfl⟩
    rw [HQ.out]
    rw [decide_eq_false (by omega)]
    simp [results, Tryz.results99, go_sem]
end Go.Proofs.YtkicbmjjbnblfaaGreatDoor
