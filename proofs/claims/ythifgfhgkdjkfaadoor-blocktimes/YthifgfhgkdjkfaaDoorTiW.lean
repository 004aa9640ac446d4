/- The walk of BlockTimes. -/
import Derived.Test.YthifgfhgkdjkfaaDoorTiP
namespace Go.Proofs.YthifgfhgkdjkfaaDoor
open Go.RowKit
theorem onS_len (st : Bool) (P f T : Int) : (onS st P f T).length = 6 := by cases st <;> rfl
theorem offS_len (st : Bool) (P f T : Int) : (offS st P f T).length = 6 := by cases st <;> rfl
theorem puS_len (st : Bool) (P f T S : Int) : (puS st P f T S).length = 6 := by cases st <;> rfl
set_option maxRecDepth 100000 in
set_option maxHeartbeats 3200000 in
theorem times_row (pt fi : Int) (sv : Value) (l : List Int) (w : World) (hS : ILst w sv l) (hg : Glo w) :
    Calls Tryd.prog 5 #[.int .i64 pt, .int .i64 fi, sv] w fun e w' => e = .returned (.bool true) ∧ Below w.heap.size w w' := by
  have mw := works_any w hg
  have HG : Hid (∀ W, Below w.heap.size w W → Glo W) := fun W h => hg.below h hg.lt
  obtain ⟨aa, ab, aoff, acap, rfl, haA, haI⟩ := hS
  have HAA := hide haA
  have HAI := hide haI
  obtain ⟨n1, hn1⟩ : ∃ n, n = l.length := ⟨_, rfl⟩
  rw [← hn1]
  have HN1 := hide hn1
  obtain ⟨P, p0, p1, eP⟩ := rem_up pt 100000 (by decide) (by decide)
  obtain ⟨f, f0, f1, eF⟩ := rem_up fi 100000 (by decide) (by decide)
  have n0 : (-1 : Int) < (n1 : Int) := by omega
  clear hg haA haI hn1
  go_enter Tryd.func5, Tryd.ntmps5
  go_wp2_with (first | (go_at_call 15; refine mw.mono ?_; rintro e w1 ⟨rfl, b1⟩; have B1 := hide b1; clear b1))
  have HW : Hid (Ob (((w1.alloc (.cells #[.int .i64 1, .int .i64 P, .int .i64 0, .int .i64 0, .int .i64 0, .int .i64 0] 2)).alloc (.cells #[.int .i64 0, .int .i64 P, .int .i64 1, .int .i64 0, .int .i64 0, .int .i64 0] 2)).alloc (.cells #[.int .i64 1, .int .i64 P, .int .i64 0, .int .i64 0, .int .i64 0, .int .i64 0] 2)) w1.heap.size 2 (intC (onS false P f f)).toArray ∧ Ob (((w1.alloc (.cells #[.int .i64 1, .int .i64 P, .int .i64 0, .int .i64 0, .int .i64 0, .int .i64 0] 2)).alloc (.cells #[.int .i64 0, .int .i64 P, .int .i64 1, .int .i64 0, .int .i64 0, .int .i64 0] 2)).alloc (.cells #[.int .i64 1, .int .i64 P, .int .i64 0, .int .i64 0, .int .i64 0, .int .i64 0] 2)) (w1.heap.size + 1) 2 (intC (offS false P f f)).toArray ∧ Ob (((w1.alloc (.cells #[.int .i64 1, .int .i64 P, .int .i64 0, .int .i64 0, .int .i64 0, .int .i64 0] 2)).alloc (.cells #[.int .i64 0, .int .i64 P, .int .i64 1, .int .i64 0, .int .i64 0, .int .i64 0] 2)).alloc (.cells #[.int .i64 1, .int .i64 P, .int .i64 0, .int .i64 0, .int .i64 0, .int .i64 0] 2)) (w1.heap.size + 2) 2 (intC (puS false P f f f)).toArray ∧ Below w.heap.size w (((w1.alloc (.cells #[.int .i64 1, .int .i64 P, .int .i64 0, .int .i64 0, .int .i64 0, .int .i64 0] 2)).alloc (.cells #[.int .i64 0, .int .i64 P, .int .i64 1, .int .i64 0, .int .i64 0, .int .i64 0] 2)).alloc (.cells #[.int .i64 1, .int .i64 P, .int .i64 0, .int .i64 0, .int .i64 0, .int .i64 0] 2))) := by
    have o1 := Ob.new w1 2 #[.int .i64 1, .int .i64 P, .int .i64 0, .int .i64 0, .int .i64 0, .int .i64 0]
    have o2 := Ob.new (w1.alloc (.cells #[.int .i64 1, .int .i64 P, .int .i64 0, .int .i64 0, .int .i64 0, .int .i64 0] 2)) 2 #[.int .i64 0, .int .i64 P, .int .i64 1, .int .i64 0, .int .i64 0, .int .i64 0]
    have o3 := Ob.new ((w1.alloc (.cells #[.int .i64 1, .int .i64 P, .int .i64 0, .int .i64 0, .int .i64 0, .int .i64 0] 2)).alloc (.cells #[.int .i64 0, .int .i64 P, .int .i64 1, .int .i64 0, .int .i64 0, .int .i64 0] 2)) 2 #[.int .i64 1, .int .i64 P, .int .i64 0, .int .i64 0, .int .i64 0, .int .i64 0]
    simp only [World.size_alloc] at o2 o3
    have q : ∀ (W : World) (o : Obj), Below W.heap.size W (W.alloc o) := fun W o => (Below.refl _ _).alloc (Nat.le_refl _) _
    exact ⟨(o1.on (q _ _) (by simp only [World.size_alloc]; omega)).on (q _ _) (by simp only [World.size_alloc]; omega), o2.on (q _ _) (by simp only [World.size_alloc]; omega), o3, ((B1.out.alloc B1.out.size _).alloc (Nat.le_trans B1.out.size (by simp only [World.size_alloc]; omega)) _).alloc (Nat.le_trans B1.out.size (by simp only [World.size_alloc]; omega)) _⟩
  have HZ := hide B1.out.size
  simp only [eP, eF]
  clear eP eF
  generalize (((w1.alloc (.cells #[.int .i64 1, .int .i64 P, .int .i64 0, .int .i64 0, .int .i64 0, .int .i64 0] 2)).alloc (.cells #[.int .i64 0, .int .i64 P, .int .i64 1, .int .i64 0, .int .i64 0, .int .i64 0] 2)).alloc (.cells #[.int .i64 1, .int .i64 P, .int .i64 0, .int .i64 0, .int .i64 0, .int .i64 0] 2)) = W0 at *
  go_loopw [7, 8, 9, 10, 11] (fun v7 v8 v9 nw i wr => ∃ (I T S : Int) (st : Bool) (g1 g2 g3 : Nat), -1 ≤ I ∧ I ≤ 60 ∧ i = .int .i64 I ∧ nw = .int .i64 T ∧ v7 = .slice (some ⟨g1, 0, none⟩) 6 6 ∧ v8 = .slice (some ⟨g2, 0, none⟩) 6 6 ∧ v9 = .slice (some ⟨g3, 0, none⟩) 6 6 ∧ f ≤ T ∧ T ≤ 200000 + I * 10000 ∧ Hid ((st = true ↔ 0 ≤ I) ∧ (I < 0 → T = f) ∧ (0 ≤ S ∧ S ≤ T) ∧ (0 < P → st = true → S = f) ∧ Ob wr g1 2 (intC (onS st P f T)).toArray ∧ Ob wr g2 2 (intC (offS st P f T)).toArray ∧ Ob wr g3 2 (intC (puS st P f T S)).toArray ∧ w.heap.size ≤ g1 ∧ Below w.heap.size w wr)) (fun _ _ _ _ i _ => (61 - intOf i).toNat)
  case atStart => exact ⟨-1, f, f, false, w1.heap.size, w1.heap.size + 1, w1.heap.size + 2, by omega, by omega, rfl, rfl, rfl, rfl, rfl, by omega, by omega, ⟨fun h => (by cases h), fun h => (by omega)⟩, fun _ => rfl, by omega, fun _ h => (by cases h), HW.out.1, HW.out.2.1, HW.out.2.2.1, HZ.out, HW.out.2.2.2⟩
  case round =>
    obtain ⟨I, T, S, st, g1, g2, g3, I0, I1, rfl, rfl, rfl, rfl, rfl, t0, t1, hh⟩ := hrel
    obtain ⟨hst, hT, hS, hSf, o1, o2, o3, l1, hb⟩ := hh.out
    have HO1 := hide o1
    have HO2 := hide o2
    have HO3 := hide o3
    have HB := hide hb
    clear hh HW o1 o2 o3 hb l1
    have HMK : Hid (∀ V, T ≤ V → V ≤ 1900000 → (st = false → V = f) → ∃ S', (0 ≤ S' ∧ S' ≤ V) ∧ (0 < P → S' = f) ∧ (∀ W, Below w.heap.size w W → Ob W g1 2 (intC (onS st P f T)).toArray → Calls Tryd.prog 10 #[.int .i64 1, .slice (some ⟨g1, 0, none⟩) 6 6, .int .i64 V] W fun e w' => ∃ g, e = .returned (.tuple #[.slice (some ⟨g, 0, none⟩) 6 6, .int .i64 0]) ∧ Ob w' g 2 (intC (onS true P f V)).toArray ∧ W.heap.size ≤ g ∧ Below W.heap.size W w') ∧ (∀ W, Below w.heap.size w W → Ob W g2 2 (intC (offS st P f T)).toArray → Calls Tryd.prog 10 #[.int .i64 2, .slice (some ⟨g2, 0, none⟩) 6 6, .int .i64 V] W fun e w' => ∃ g, e = .returned (.tuple #[.slice (some ⟨g, 0, none⟩) 6 6, .int .i64 0]) ∧ Ob w' g 2 (intC (offS true P f V)).toArray ∧ W.heap.size ≤ g ∧ Below W.heap.size W w') ∧ (∀ W, Below w.heap.size w W → Ob W g3 2 (intC (puS st P f T S)).toArray → Calls Tryd.prog 10 #[.int .i64 3, .slice (some ⟨g3, 0, none⟩) 6 6, .int .i64 V] W fun e w' => ∃ g, e = .returned (.tuple #[.slice (some ⟨g, 0, none⟩) 6 6, .int .i64 0]) ∧ Ob w' g 2 (intC (puS true P f V S')).toArray ∧ W.heap.size ≤ g ∧ Below W.heap.size W w')) := fun V v0 v1 v2 => by
      have tms : Tms st P f T V := ⟨p0, by omega, f0, v0, v1, fun _ => t0, by omega, v2⟩
      obtain ⟨S', s1, s2, s3, s4⟩ := pu_step tms hS hSf
      exact ⟨S', s3, s4, fun W hb ho => step_own 1 _ _ V (on_step tms).1 (on_step tms).2 g1 2 6 6 6 (onS_len _ _ _ _).symm (onS_len _ _ _ _) W (HG.out W hb) ho, fun W hb ho => step_own 2 _ _ V (off_step tms).1 (off_step tms).2 g2 2 6 6 6 (offS_len _ _ _ _).symm (offS_len _ _ _ _) W (HG.out W hb) ho, fun W hb ho => step_own 3 _ _ V s1 s2 g3 2 6 6 6 (puS_len _ _ _ _ _).symm (puS_len _ _ _ _ _) W (HG.out W hb) ho⟩
    have HST := hide hst
    have HTT := hide hT
    clear hS hSf hst hT
    by_cases hI : I < 0
    · obtain rfl : I = -1 := by omega
      obtain rfl := HTT.out hI
      have hs0 : st = false := by
        cases hq : st
        · rfl
        · exact absurd (HST.out.1 hq) (by omega)
      obtain ⟨S', s1, s2, c1, c2, c3⟩ := HMK.out T (by omega) (by omega) (fun _ => rfl)
      have C1 := hide c1
      have C2 := hide c2
      have C3 := hide c3
      have HS1 := hide s1
      have HS2 := hide s2
      clear c1 c2 c3 HMK s1 s2 hs0 HST HTT hI I0 I1
      by_cases hP : 0 < P
      · have hp : ¬ P ≤ T - T := by omega
        obtain ⟨M, hM⟩ : ∃ M, M = min (T - T) P := ⟨_, rfl⟩
        have E1 : Hid ((intC (onS true P T T)).toArray[2]? = some (.int .i64 0)) := by show some (Value.int .i64 (flagN (decide (P ≤ T - T)))) = _; rw [decide_eq_false hp]; rfl
        have E2 : Hid ((intC (offS true P T T)).toArray[2]? = some (.int .i64 1)) := by show some (Value.int .i64 (flagN (decide (T - T < P)))) = _; rw [lt_not, decide_eq_false hp]; rfl
        have E3 : Hid ((intC (puS true P T T S')).toArray[2]? = some (.int .i64 1)) := by show some (Value.int .i64 (flagN (decide (T - T < P)))) = _; rw [lt_not, decide_eq_false hp]; rfl
        have E4 : Hid ((intC (onS true P T T)).toArray[3]? = some (.int .i64 M)) := by rw [hM]; rfl
        have emin : ∀ (ts : Array TypeId) (t : TypeId) (W : World), (Builtin.min_ ts t #[.int .i64 0, .int .i64 P]).run Tryd.prog W = .ok (.int .i64 M) W := fun ts t W => by rw [run_min_int2]; exact congrArg (fun z => Result.ok (Value.int .i64 z) W) (by rw [hM]; split <;> omega)
        have HM := hide hM
        clear hM
        go_wp2_with (first | (go_at_call 10; first | ((with_reducible refine (C1.out _ HB.out HO1.out).mono ?_); rintro e_ w2 ⟨G1, rfl, o2, l2, b2⟩; have O2 := hide o2; have L2 := hide l2; have B2 := hide b2; clear o2 l2 b2; have BB2 := hide (HB.out.trans (B2.out.mono HB.out.size)); have OO2 := hide (HO2.out.on B2.out HO2.out.lt)) | ((with_reducible refine (C2.out _ BB2.out OO2.out).mono ?_); rintro e_ w3 ⟨G2, rfl, o3, l3, b3⟩; have O3 := hide o3; have B3 := hide b3; clear o3 l3 b3; have BB3 := hide (BB2.out.trans (B3.out.mono BB2.out.size)); have OO3 := hide ((HO3.out.on B2.out HO3.out.lt).on B3.out (HO3.out.on B2.out HO3.out.lt).lt)) | ((with_reducible refine (C3.out _ BB3.out OO3.out).mono ?_); rintro e_ w4 ⟨G3, rfl, o4, l4, b4⟩; have O4 := hide o4; have B4 := hide b4; clear o4 l4 b4; have R1 := hide ((O2.out.on B3.out O2.out.lt).on B4.out (O2.out.on B3.out O2.out.lt).lt); have R2 := hide (O3.out.on B4.out O3.out.lt); have d1 : w4.cell? ⟨G1, 2, none⟩ = some (.int .i64 0) := R1.out.cell 2 E1.out; have d2 : w4.cell? ⟨G2, 2, none⟩ = some (.int .i64 1) := R2.out.cell 2 E2.out; have d3 : w4.cell? ⟨G3, 2, none⟩ = some (.int .i64 1) := O4.out.cell 2 E3.out; have d4 : w4.cell? ⟨G1, 3, none⟩ = some (.int .i64 M) := R1.out.cell 3 E4.out)))
        go_roundw
        case rel => exact ⟨0, T, S', true, G1, G2, G3, by omega, by omega, by first | rfl | go_num, rfl, rfl, rfl, rfl, by omega, by omega, ⟨fun _ => (by omega), fun _ => rfl⟩, fun h => (by omega), HS1.out, fun h _ => HS2.out h, R1.out, R2.out, O4.out, Nat.le_trans HB.out.size L2.out, BB3.out.trans (B4.out.mono BB3.out.size)⟩
        case measure => first | (simp [intOf]; done) | (simp [intOf]; omega)
      · have hp : P ≤ T - T := by omega
        obtain ⟨M, hM⟩ : ∃ M, M = min (T - T) P := ⟨_, rfl⟩
        have E1 : Hid ((intC (onS true P T T)).toArray[2]? = some (.int .i64 1)) := by show some (Value.int .i64 (flagN (decide (P ≤ T - T)))) = _; rw [decide_eq_true hp]; rfl
        have E2 : Hid ((intC (offS true P T T)).toArray[2]? = some (.int .i64 0)) := by show some (Value.int .i64 (flagN (decide (T - T < P)))) = _; rw [lt_not, decide_eq_true hp]; rfl
        have E3 : Hid ((intC (puS true P T T S')).toArray[2]? = some (.int .i64 0)) := by show some (Value.int .i64 (flagN (decide (T - T < P)))) = _; rw [lt_not, decide_eq_true hp]; rfl
        have E4 : Hid ((intC (onS true P T T)).toArray[3]? = some (.int .i64 M)) := by rw [hM]; rfl
        have emin : ∀ (ts : Array TypeId) (t : TypeId) (W : World), (Builtin.min_ ts t #[.int .i64 0, .int .i64 P]).run Tryd.prog W = .ok (.int .i64 M) W := fun ts t W => by rw [run_min_int2]; exact congrArg (fun z => Result.ok (Value.int .i64 z) W) (by rw [hM]; split <;> omega)
        have HM := hide hM
        clear hM
        go_wp2_with (first | (go_at_call 10; first | ((with_reducible refine (C1.out _ HB.out HO1.out).mono ?_); rintro e_ w2 ⟨G1, rfl, o2, l2, b2⟩; have O2 := hide o2; have L2 := hide l2; have B2 := hide b2; clear o2 l2 b2; have BB2 := hide (HB.out.trans (B2.out.mono HB.out.size)); have OO2 := hide (HO2.out.on B2.out HO2.out.lt)) | ((with_reducible refine (C2.out _ BB2.out OO2.out).mono ?_); rintro e_ w3 ⟨G2, rfl, o3, l3, b3⟩; have O3 := hide o3; have B3 := hide b3; clear o3 l3 b3; have BB3 := hide (BB2.out.trans (B3.out.mono BB2.out.size)); have OO3 := hide ((HO3.out.on B2.out HO3.out.lt).on B3.out (HO3.out.on B2.out HO3.out.lt).lt)) | ((with_reducible refine (C3.out _ BB3.out OO3.out).mono ?_); rintro e_ w4 ⟨G3, rfl, o4, l4, b4⟩; have O4 := hide o4; have B4 := hide b4; clear o4 l4 b4; have R1 := hide ((O2.out.on B3.out O2.out.lt).on B4.out (O2.out.on B3.out O2.out.lt).lt); have R2 := hide (O3.out.on B4.out O3.out.lt); have d1 : w4.cell? ⟨G1, 2, none⟩ = some (.int .i64 1) := R1.out.cell 2 E1.out; have d2 : w4.cell? ⟨G2, 2, none⟩ = some (.int .i64 0) := R2.out.cell 2 E2.out; have d3 : w4.cell? ⟨G3, 2, none⟩ = some (.int .i64 0) := O4.out.cell 2 E3.out; have d4 : w4.cell? ⟨G1, 3, none⟩ = some (.int .i64 M) := R1.out.cell 3 E4.out)))
        go_roundw
        case rel => exact ⟨0, T, S', true, G1, G2, G3, by omega, by omega, by first | rfl | go_num, rfl, rfl, rfl, rfl, by omega, by omega, ⟨fun _ => (by omega), fun _ => rfl⟩, fun h => (by omega), HS1.out, fun h _ => HS2.out h, R1.out, R2.out, O4.out, Nat.le_trans HB.out.size L2.out, BB3.out.trans (B4.out.mono BB3.out.size)⟩
        case measure => first | (simp [intOf]; done) | (simp [intOf]; omega)
    · obtain ⟨k, rfl⟩ : ∃ k : Nat, I = (k : Int) := ⟨I.toNat, by omega⟩
      have hs0 : st = true := HST.out.2 (by omega)
      subst hs0
      clear HST HTT hI I0
      by_cases h1 : (k : Int) < (n1 : Int)
      · by_cases h3 : (k : Int) < 60
        · have j0 : (0 : Int) ≤ (k : Int) := by omega
          obtain ⟨x, hx⟩ : ∃ x, l[k]? = some x := ⟨_, List.getElem?_eq_getElem (by rw [← HN1.out]; omega)⟩
          obtain ⟨hab, rfl⟩ := HAA.out (by rw [← HN1.out]; omega)
          have ca := (HB.out.cell (p := ⟨ab, aoff + k, none⟩) hab).trans (HAI.out k x hx)
          obtain ⟨R, r0, r1, eR⟩ := rem_up x 10000 (by decide) (by decide)
          obtain ⟨S', s1, s2, c1, c2, c3⟩ := HMK.out (T + R) (by omega) (by omega) (fun h => by cases h)
          have C1 := hide c1
          have C2 := hide c2
          have C3 := hide c3
          have HS1 := hide s1
          have HS2 := hide s2
          clear c1 c2 c3 HMK s1 s2 hx hab
          by_cases hp : P ≤ T + R - f
          · by_cases hP : 0 < P
            · obtain ⟨M, hM⟩ : ∃ M, M = min ((T + R) - f) P := ⟨_, rfl⟩
              have E1 : Hid ((intC (onS true P f (T + R))).toArray[2]? = some (.int .i64 1)) := by show some (Value.int .i64 (flagN (decide (P ≤ (T + R) - f)))) = _; rw [decide_eq_true hp]; rfl
              have E2 : Hid ((intC (offS true P f (T + R))).toArray[2]? = some (.int .i64 0)) := by show some (Value.int .i64 (flagN (decide ((T + R) - f < P)))) = _; rw [lt_not, decide_eq_true hp]; rfl
              have E3 : Hid ((intC (puS true P f (T + R) S')).toArray[2]? = some (.int .i64 0)) := by show some (Value.int .i64 (flagN (decide ((T + R) - f < P)))) = _; rw [lt_not, decide_eq_true hp]; rfl
              have E4 : Hid ((intC (onS true P f (T + R))).toArray[3]? = some (.int .i64 M)) := by rw [hM]; rfl
              have emin : ∀ (ts : Array TypeId) (t : TypeId) (W : World), (Builtin.min_ ts t #[.int .i64 (T + R - f), .int .i64 P]).run Tryd.prog W = .ok (.int .i64 M) W := fun ts t W => by rw [run_min_int2]; exact congrArg (fun z => Result.ok (Value.int .i64 z) W) (by rw [hM]; split <;> omega)
              have HM := hide hM
              clear hM
              go_wp2_with (first | (go_at_call 10; first | ((with_reducible refine (C1.out _ HB.out HO1.out).mono ?_); rintro e_ w2 ⟨G1, rfl, o2, l2, b2⟩; have O2 := hide o2; have L2 := hide l2; have B2 := hide b2; clear o2 l2 b2; have BB2 := hide (HB.out.trans (B2.out.mono HB.out.size)); have OO2 := hide (HO2.out.on B2.out HO2.out.lt)) | ((with_reducible refine (C2.out _ BB2.out OO2.out).mono ?_); rintro e_ w3 ⟨G2, rfl, o3, l3, b3⟩; have O3 := hide o3; have B3 := hide b3; clear o3 l3 b3; have BB3 := hide (BB2.out.trans (B3.out.mono BB2.out.size)); have OO3 := hide ((HO3.out.on B2.out HO3.out.lt).on B3.out (HO3.out.on B2.out HO3.out.lt).lt)) | ((with_reducible refine (C3.out _ BB3.out OO3.out).mono ?_); rintro e_ w4 ⟨G3, rfl, o4, l4, b4⟩; have O4 := hide o4; have B4 := hide b4; clear o4 l4 b4; have R1 := hide ((O2.out.on B3.out O2.out.lt).on B4.out (O2.out.on B3.out O2.out.lt).lt); have R2 := hide (O3.out.on B4.out O3.out.lt); have d1 : w4.cell? ⟨G1, 2, none⟩ = some (.int .i64 1) := R1.out.cell 2 E1.out; have d2 : w4.cell? ⟨G2, 2, none⟩ = some (.int .i64 0) := R2.out.cell 2 E2.out; have d3 : w4.cell? ⟨G3, 2, none⟩ = some (.int .i64 0) := O4.out.cell 2 E3.out; have d4 : w4.cell? ⟨G1, 3, none⟩ = some (.int .i64 M) := R1.out.cell 3 E4.out)))
              go_roundw
              case rel => exact ⟨(k : Int) + 1, (T + R), S', true, G1, G2, G3, by omega, by omega, by first | rfl | go_num, rfl, rfl, rfl, rfl, by omega, by omega, ⟨fun _ => (by omega), fun _ => rfl⟩, fun h => (by omega), HS1.out, fun h _ => HS2.out h, R1.out, R2.out, O4.out, Nat.le_trans HB.out.size L2.out, BB3.out.trans (B4.out.mono BB3.out.size)⟩
              case measure => first | (simp [intOf]; done) | (simp [intOf]; omega)
            · obtain ⟨M, hM⟩ : ∃ M, M = min ((T + R) - f) P := ⟨_, rfl⟩
              have E1 : Hid ((intC (onS true P f (T + R))).toArray[2]? = some (.int .i64 1)) := by show some (Value.int .i64 (flagN (decide (P ≤ (T + R) - f)))) = _; rw [decide_eq_true hp]; rfl
              have E2 : Hid ((intC (offS true P f (T + R))).toArray[2]? = some (.int .i64 0)) := by show some (Value.int .i64 (flagN (decide ((T + R) - f < P)))) = _; rw [lt_not, decide_eq_true hp]; rfl
              have E3 : Hid ((intC (puS true P f (T + R) S')).toArray[2]? = some (.int .i64 0)) := by show some (Value.int .i64 (flagN (decide ((T + R) - f < P)))) = _; rw [lt_not, decide_eq_true hp]; rfl
              have E4 : Hid ((intC (onS true P f (T + R))).toArray[3]? = some (.int .i64 M)) := by rw [hM]; rfl
              have emin : ∀ (ts : Array TypeId) (t : TypeId) (W : World), (Builtin.min_ ts t #[.int .i64 (T + R - f), .int .i64 P]).run Tryd.prog W = .ok (.int .i64 M) W := fun ts t W => by rw [run_min_int2]; exact congrArg (fun z => Result.ok (Value.int .i64 z) W) (by rw [hM]; split <;> omega)
              have HM := hide hM
              clear hM
              go_wp2_with (first | (go_at_call 10; first | ((with_reducible refine (C1.out _ HB.out HO1.out).mono ?_); rintro e_ w2 ⟨G1, rfl, o2, l2, b2⟩; have O2 := hide o2; have L2 := hide l2; have B2 := hide b2; clear o2 l2 b2; have BB2 := hide (HB.out.trans (B2.out.mono HB.out.size)); have OO2 := hide (HO2.out.on B2.out HO2.out.lt)) | ((with_reducible refine (C2.out _ BB2.out OO2.out).mono ?_); rintro e_ w3 ⟨G2, rfl, o3, l3, b3⟩; have O3 := hide o3; have B3 := hide b3; clear o3 l3 b3; have BB3 := hide (BB2.out.trans (B3.out.mono BB2.out.size)); have OO3 := hide ((HO3.out.on B2.out HO3.out.lt).on B3.out (HO3.out.on B2.out HO3.out.lt).lt)) | ((with_reducible refine (C3.out _ BB3.out OO3.out).mono ?_); rintro e_ w4 ⟨G3, rfl, o4, l4, b4⟩; have O4 := hide o4; have B4 := hide b4; clear o4 l4 b4; have R1 := hide ((O2.out.on B3.out O2.out.lt).on B4.out (O2.out.on B3.out O2.out.lt).lt); have R2 := hide (O3.out.on B4.out O3.out.lt); have d1 : w4.cell? ⟨G1, 2, none⟩ = some (.int .i64 1) := R1.out.cell 2 E1.out; have d2 : w4.cell? ⟨G2, 2, none⟩ = some (.int .i64 0) := R2.out.cell 2 E2.out; have d3 : w4.cell? ⟨G3, 2, none⟩ = some (.int .i64 0) := O4.out.cell 2 E3.out; have d4 : w4.cell? ⟨G1, 3, none⟩ = some (.int .i64 M) := R1.out.cell 3 E4.out)))
              go_roundw
              case rel => exact ⟨(k : Int) + 1, (T + R), S', true, G1, G2, G3, by omega, by omega, by first | rfl | go_num, rfl, rfl, rfl, rfl, by omega, by omega, ⟨fun _ => (by omega), fun _ => rfl⟩, fun h => (by omega), HS1.out, fun h _ => HS2.out h, R1.out, R2.out, O4.out, Nat.le_trans HB.out.size L2.out, BB3.out.trans (B4.out.mono BB3.out.size)⟩
              case measure => first | (simp [intOf]; done) | (simp [intOf]; omega)
          · have hP : 0 < P := by omega
            obtain ⟨M, hM⟩ : ∃ M, M = min ((T + R) - f) P := ⟨_, rfl⟩
            have E1 : Hid ((intC (onS true P f (T + R))).toArray[2]? = some (.int .i64 0)) := by show some (Value.int .i64 (flagN (decide (P ≤ (T + R) - f)))) = _; rw [decide_eq_false hp]; rfl
            have E2 : Hid ((intC (offS true P f (T + R))).toArray[2]? = some (.int .i64 1)) := by show some (Value.int .i64 (flagN (decide ((T + R) - f < P)))) = _; rw [lt_not, decide_eq_false hp]; rfl
            have E3 : Hid ((intC (puS true P f (T + R) S')).toArray[2]? = some (.int .i64 1)) := by show some (Value.int .i64 (flagN (decide ((T + R) - f < P)))) = _; rw [lt_not, decide_eq_false hp]; rfl
            have E4 : Hid ((intC (onS true P f (T + R))).toArray[3]? = some (.int .i64 M)) := by rw [hM]; rfl
            have emin : ∀ (ts : Array TypeId) (t : TypeId) (W : World), (Builtin.min_ ts t #[.int .i64 (T + R - f), .int .i64 P]).run Tryd.prog W = .ok (.int .i64 M) W := fun ts t W => by rw [run_min_int2]; exact congrArg (fun z => Result.ok (Value.int .i64 z) W) (by rw [hM]; split <;> omega)
            have HM := hide hM
            clear hM
            go_wp2_with (first | (go_at_call 10; first | ((with_reducible refine (C1.out _ HB.out HO1.out).mono ?_); rintro e_ w2 ⟨G1, rfl, o2, l2, b2⟩; have O2 := hide o2; have L2 := hide l2; have B2 := hide b2; clear o2 l2 b2; have BB2 := hide (HB.out.trans (B2.out.mono HB.out.size)); have OO2 := hide (HO2.out.on B2.out HO2.out.lt)) | ((with_reducible refine (C2.out _ BB2.out OO2.out).mono ?_); rintro e_ w3 ⟨G2, rfl, o3, l3, b3⟩; have O3 := hide o3; have B3 := hide b3; clear o3 l3 b3; have BB3 := hide (BB2.out.trans (B3.out.mono BB2.out.size)); have OO3 := hide ((HO3.out.on B2.out HO3.out.lt).on B3.out (HO3.out.on B2.out HO3.out.lt).lt)) | ((with_reducible refine (C3.out _ BB3.out OO3.out).mono ?_); rintro e_ w4 ⟨G3, rfl, o4, l4, b4⟩; have O4 := hide o4; have B4 := hide b4; clear o4 l4 b4; have R1 := hide ((O2.out.on B3.out O2.out.lt).on B4.out (O2.out.on B3.out O2.out.lt).lt); have R2 := hide (O3.out.on B4.out O3.out.lt); have d1 : w4.cell? ⟨G1, 2, none⟩ = some (.int .i64 0) := R1.out.cell 2 E1.out; have d2 : w4.cell? ⟨G2, 2, none⟩ = some (.int .i64 1) := R2.out.cell 2 E2.out; have d3 : w4.cell? ⟨G3, 2, none⟩ = some (.int .i64 1) := O4.out.cell 2 E3.out; have d4 : w4.cell? ⟨G1, 3, none⟩ = some (.int .i64 M) := R1.out.cell 3 E4.out)))
            go_roundw
            case rel => exact ⟨(k : Int) + 1, (T + R), S', true, G1, G2, G3, by omega, by omega, by first | rfl | go_num, rfl, rfl, rfl, rfl, by omega, by omega, ⟨fun _ => (by omega), fun _ => rfl⟩, fun h => (by omega), HS1.out, fun h _ => HS2.out h, R1.out, R2.out, O4.out, Nat.le_trans HB.out.size L2.out, BB3.out.trans (B4.out.mono BB3.out.size)⟩
            case measure => first | (simp [intOf]; done) | (simp [intOf]; omega)
        · go_wp2
          go_ret
          exact ⟨rfl, HB.out⟩
      · go_wp2
        go_ret
        exact ⟨rfl, HB.out⟩
end Go.Proofs.YthifgfhgkdjkfaaDoor
