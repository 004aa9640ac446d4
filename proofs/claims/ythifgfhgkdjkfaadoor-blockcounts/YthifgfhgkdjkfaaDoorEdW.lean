/- The walk of BlockEdges. -/
import Derived.Test.YthifgfhgkdjkfaaDoorCfP
namespace Go.Proofs.YthifgfhgkdjkfaaDoor
open Go.RowKit
theorem flag_one (b : Bool) : (flagN b == 1) = b := by cases b <;> rfl
theorem int_fits {v : Int} (h : -32768 ≤ v ∧ v ≤ 32767) : fitB 2 v = true := by
  rw [fit_span]; simp [tyB]; omega
theorem ctu_row (C W Q : Bool) (v : Int) (hv : -32768 ≤ v ∧ v ≤ 32767) : stepE 4 [flagN C, 0, 10, flagN Q, v, flagN W] 0 = 0 ∧ stepL 4 [flagN C, 0, 10, flagN Q, v, flagN W] 0 = [flagN C, 0, 10, flagN (decide (10 ≤ (if C && !W && decide (v < 32767) then v + 1 else v))), if C && !W && decide (v < 32767) then v + 1 else v, flagN C] := by
  refine ⟨stepE_zero.2 ⟨by omega, rfl, ?_, by decide⟩, ?_⟩
  · simp [fitL, fldK, flag_fit, int_fits hv]; decide
  · have e : cnL [flagN C, 0, 10, flagN Q, v, flagN W] = ⟨C, false, 10, Q, v, W⟩ := by simp [cnL, flag_one]
    unfold stepL
    simp only [show ¬ (4 : Int) = 1 by decide, show ¬ (4 : Int) = 2 by decide, show ¬ (4 : Int) = 3 by decide, if_false, if_true, e]
    rfl
theorem ctd_row (C W Q : Bool) (v : Int) (hv : -32768 ≤ v ∧ v ≤ 32767) : stepE 5 [flagN C, 0, 10, flagN Q, v, flagN W] 0 = 0 ∧ stepL 5 [flagN C, 0, 10, flagN Q, v, flagN W] 0 = [flagN C, 0, 10, flagN (decide ((if C && !W && decide (-32768 < v) then v - 1 else v) ≤ 0)), if C && !W && decide (-32768 < v) then v - 1 else v, flagN C] := by
  refine ⟨stepE_zero.2 ⟨by omega, rfl, ?_, by decide⟩, ?_⟩
  · simp [fitL, fldK, flag_fit, int_fits hv]; decide
  · have e : cnL [flagN C, 0, 10, flagN Q, v, flagN W] = ⟨C, false, 10, Q, v, W⟩ := by simp [cnL, flag_one]
    unfold stepL
    simp only [show ¬ (5 : Int) = 1 by decide, show ¬ (5 : Int) = 2 by decide, show ¬ (5 : Int) = 3 by decide, show ¬ (5 : Int) = 4 by decide, if_false, if_true, e]
    rfl
def upV (F J : Int) : Int := min 32767 (F + J)
def dnV (F J : Int) : Int := max (-32768) (F - J)
theorem upV_in {F J : Int} (h : -32768 ≤ F ∧ F ≤ 32767) (h2 : 0 ≤ J) : -32768 ≤ upV F J ∧ upV F J ≤ 32767 := by unfold upV; omega
theorem dnV_in {F J : Int} (h : -32768 ≤ F ∧ F ≤ 32767) (h2 : 0 ≤ J) : -32768 ≤ dnV F J ∧ dnV F J ≤ 32767 := by unfold dnV; omega
theorem upV_next (F J : Int) : (if decide (upV F J < 32767) then upV F J + 1 else upV F J) = upV F (J + 1) := by
  unfold upV
  by_cases h : min 32767 (F + J) < 32767
  · rw [decide_eq_true h]; simp only [if_true]; omega
  · rw [decide_eq_false h]; simp only [Bool.false_eq_true, if_false]; omega
theorem dnV_next (F J : Int) : (if decide (-32768 < dnV F J) then dnV F J - 1 else dnV F J) = dnV F (J + 1) := by
  unfold dnV
  by_cases h : -32768 < max (-32768) (F - J)
  · rw [decide_eq_true h]; simp only [if_true]; omega
  · rw [decide_eq_false h]; simp only [Bool.false_eq_true, if_false]; omega
theorem i16_in (f : Int) : -32768 ≤ IntKind.i16.wrap f ∧ IntKind.i16.wrap f ≤ 32767 := by
  have e : IntKind.i16.wrap f = wrN 2 f := by
    unfold wrN
    rw [if_neg (by decide), show szN 2 = 65536 from rfl]
    simp [IntKind.wrap, IntKind.bits, IntKind.signed]
  obtain ⟨a, b⟩ := wr_range (t := 2) (by decide) f
  rw [show szN 2 = 65536 from rfl] at a b
  rw [e]; omega
set_option maxRecDepth 100000 in
set_option maxHeartbeats 3200000 in
theorem edges_row (av : Value) (la : List Int) (f : Int) (w : World) (hA : ILst w av la) (hg : Glo w) :
    Calls Tryd.prog 6 #[av, .int .i64 f] w fun e w' => e = .returned (.bool true) ∧ Below w.heap.size w w' := by
  have mw := works_any w hg
  have HG : Hid (∀ W, Below w.heap.size w W → Glo W) := fun W h => hg.below h hg.lt
  obtain ⟨aa, ab, aoff, acap, rfl, haA, haI⟩ := hA
  have HAA := hide haA
  have HAI := hide haI
  obtain ⟨n1, hn1⟩ : ∃ n, n = la.length := ⟨_, rfl⟩
  rw [← hn1]
  have HN1 := hide hn1
  obtain ⟨F, hF⟩ : ∃ F, IntKind.i16.wrap f = F := ⟨_, rfl⟩
  have hFi := i16_in f
  rw [hF] at hFi
  have HFI := hide hFi
  obtain ⟨f1, f2⟩ := hFi
  clear hg haA haI hn1
  go_enter Tryd.func6, Tryd.ntmps6
  go_wp2_with (first | (go_at_call 15; refine mw.mono ?_; rintro e w1 ⟨rfl, b1⟩; have B1 := hide b1; clear b1))
  have HW : Hid (Ob ((((w1.alloc (.cells #[.int .i64 0, .int .i64 0, .int .i64 0] 2)).alloc (.cells #[.int .i64 0, .int .i64 0, .int .i64 0] 2)).alloc (.cells #[.int .i64 0, .int .i64 0, .int .i64 10, .int .i64 0, .int .i64 F, .int .i64 0] 2)).alloc (.cells #[.int .i64 0, .int .i64 0, .int .i64 10, .int .i64 0, .int .i64 F, .int .i64 0] 2)) w1.heap.size 2 (intC [0, flagN false, flagN false]).toArray ∧ Ob ((((w1.alloc (.cells #[.int .i64 0, .int .i64 0, .int .i64 0] 2)).alloc (.cells #[.int .i64 0, .int .i64 0, .int .i64 0] 2)).alloc (.cells #[.int .i64 0, .int .i64 0, .int .i64 10, .int .i64 0, .int .i64 F, .int .i64 0] 2)).alloc (.cells #[.int .i64 0, .int .i64 0, .int .i64 10, .int .i64 0, .int .i64 F, .int .i64 0] 2)) (w1.heap.size + 1) 2 (intC [0, flagN false, flagN false]).toArray ∧ Ob ((((w1.alloc (.cells #[.int .i64 0, .int .i64 0, .int .i64 0] 2)).alloc (.cells #[.int .i64 0, .int .i64 0, .int .i64 0] 2)).alloc (.cells #[.int .i64 0, .int .i64 0, .int .i64 10, .int .i64 0, .int .i64 F, .int .i64 0] 2)).alloc (.cells #[.int .i64 0, .int .i64 0, .int .i64 10, .int .i64 0, .int .i64 F, .int .i64 0] 2)) (w1.heap.size + 2) 2 (intC [0, 0, 10, flagN false, upV F 0, flagN false]).toArray ∧ Ob ((((w1.alloc (.cells #[.int .i64 0, .int .i64 0, .int .i64 0] 2)).alloc (.cells #[.int .i64 0, .int .i64 0, .int .i64 0] 2)).alloc (.cells #[.int .i64 0, .int .i64 0, .int .i64 10, .int .i64 0, .int .i64 F, .int .i64 0] 2)).alloc (.cells #[.int .i64 0, .int .i64 0, .int .i64 10, .int .i64 0, .int .i64 F, .int .i64 0] 2)) (w1.heap.size + 3) 2 (intC [0, 0, 10, flagN false, dnV F 0, flagN false]).toArray ∧ Below w.heap.size w ((((w1.alloc (.cells #[.int .i64 0, .int .i64 0, .int .i64 0] 2)).alloc (.cells #[.int .i64 0, .int .i64 0, .int .i64 0] 2)).alloc (.cells #[.int .i64 0, .int .i64 0, .int .i64 10, .int .i64 0, .int .i64 F, .int .i64 0] 2)).alloc (.cells #[.int .i64 0, .int .i64 0, .int .i64 10, .int .i64 0, .int .i64 F, .int .i64 0] 2))) := by
    have e1 : upV F 0 = F := by unfold upV; omega
    have e2 : dnV F 0 = F := by unfold dnV; omega
    rw [e1, e2]
    have o1 := Ob.new w1 2 #[.int .i64 0, .int .i64 0, .int .i64 0]
    have o2 := Ob.new (w1.alloc (.cells #[.int .i64 0, .int .i64 0, .int .i64 0] 2)) 2 #[.int .i64 0, .int .i64 0, .int .i64 0]
    have o3 := Ob.new ((w1.alloc (.cells #[.int .i64 0, .int .i64 0, .int .i64 0] 2)).alloc (.cells #[.int .i64 0, .int .i64 0, .int .i64 0] 2)) 2 #[.int .i64 0, .int .i64 0, .int .i64 10, .int .i64 0, .int .i64 F, .int .i64 0]
    have o4 := Ob.new (((w1.alloc (.cells #[.int .i64 0, .int .i64 0, .int .i64 0] 2)).alloc (.cells #[.int .i64 0, .int .i64 0, .int .i64 0] 2)).alloc (.cells #[.int .i64 0, .int .i64 0, .int .i64 10, .int .i64 0, .int .i64 F, .int .i64 0] 2)) 2 #[.int .i64 0, .int .i64 0, .int .i64 10, .int .i64 0, .int .i64 F, .int .i64 0]
    have l1 := o1.lt
    have l2 := o2.lt
    have l3 := o3.lt
    simp only [World.size_alloc] at o2 o3 o4 l1 l2 l3
    have q : ∀ (W : World) (o : Obj), Below W.heap.size W (W.alloc o) := fun W o => (Below.refl _ _).alloc (Nat.le_refl _) _
    exact ⟨((o1.on (q _ _) (by simp only [World.size_alloc]; omega)).on (q _ _) (by simp only [World.size_alloc]; omega)).on (q _ _) (by simp only [World.size_alloc]; omega), (o2.on (q _ _) (by simp only [World.size_alloc]; omega)).on (q _ _) (by simp only [World.size_alloc]; omega), o3.on (q _ _) (by simp only [World.size_alloc]; omega), o4, (((B1.out.alloc B1.out.size _).alloc (Nat.le_trans B1.out.size (by simp only [World.size_alloc]; omega)) _).alloc (Nat.le_trans B1.out.size (by simp only [World.size_alloc]; omega)) _).alloc (Nat.le_trans B1.out.size (by simp only [World.size_alloc]; omega)) _⟩
  have HZ := hide B1.out.size
  generalize ((((w1.alloc (.cells #[.int .i64 0, .int .i64 0, .int .i64 0] 2)).alloc (.cells #[.int .i64 0, .int .i64 0, .int .i64 0] 2)).alloc (.cells #[.int .i64 0, .int .i64 0, .int .i64 10, .int .i64 0, .int .i64 F, .int .i64 0] 2)).alloc (.cells #[.int .i64 0, .int .i64 0, .int .i64 10, .int .i64 0, .int .i64 F, .int .i64 0] 2)) = W0 at *
  go_loopw [5, 6, 7, 8, 9, 10, 11] (fun v5 v6 v7 v8 wa ca i wr => ∃ (k : Nat) (P Q R Q3 Q4 : Bool) (J : Int) (g1 g2 g3 g4 : Nat) (x1 x2 x3 x4 : Int), k ≤ 100 ∧ 0 ≤ J ∧ J ≤ (k : Int) ∧ i = .int .i64 (k : Int) ∧ wa = .int .i64 (flagN P) ∧ ca = .int .i64 J ∧ v5 = .slice (some ⟨g1, 0, none⟩) 3 3 ∧ v6 = .slice (some ⟨g2, 0, none⟩) 3 3 ∧ v7 = .slice (some ⟨g3, 0, none⟩) 6 6 ∧ v8 = .slice (some ⟨g4, 0, none⟩) 6 6 ∧ Hid (Ob wr g1 2 (intC [x1, flagN Q, flagN P]).toArray ∧ Ob wr g2 2 (intC [x2, flagN R, flagN P]).toArray ∧ Ob wr g3 2 (intC [x3, 0, 10, flagN Q3, upV F J, flagN P]).toArray ∧ Ob wr g4 2 (intC [x4, 0, 10, flagN Q4, dnV F J, flagN P]).toArray ∧ w.heap.size ≤ g1 ∧ g1 < g2 ∧ g2 < g3 ∧ g3 < g4 ∧ Below w.heap.size w wr)) (fun _ _ _ _ _ _ i _ => 101 - (intOf i).toNat)
  case atStart => exact ⟨0, false, false, false, false, false, 0, w1.heap.size, w1.heap.size + 1, w1.heap.size + 2, w1.heap.size + 3, 0, 0, 0, 0, by omega, by omega, by omega, rfl, rfl, rfl, rfl, rfl, rfl, rfl, HW.out.1, HW.out.2.1, HW.out.2.2.1, HW.out.2.2.2.1, HZ.out, by omega, by omega, by omega, HW.out.2.2.2.2⟩
  case round =>
    obtain ⟨k, P, Q, R, Q3, Q4, J, g1, g2, g3, g4, x1, x2, x3, x4, hk, J0, J1, rfl, rfl, rfl, rfl, rfl, rfl, rfl, hh⟩ := hrel
    obtain ⟨o1, o2, o3, o4, l1, l2, l3, l4, hb⟩ := hh.out
    have HO1 := hide o1
    have HO2 := hide o2
    have HO3 := hide o3
    have HO4 := hide o4
    have HL := hide (And.intro l1 (And.intro l2 (And.intro l3 l4)))
    have HB := hide hb
    clear hh HW o1 o2 o3 o4 hb
    by_cases h1 : (k : Int) < (n1 : Int)
    · by_cases h3 : (k : Int) < 100
      · have j0 : (0 : Int) ≤ (k : Int) := by omega
        have J2 : J ≤ 100 := by omega
        obtain ⟨x, hx⟩ : ∃ x, la[k]? = some x := ⟨_, List.getElem?_eq_getElem (by rw [← HN1.out]; omega)⟩
        obtain ⟨hab, rfl⟩ := HAA.out (by rw [← HN1.out]; omega)
        have ca := (HB.out.cell (p := ⟨ab, aoff + k, none⟩) hab).trans (HAI.out k x hx)
        have HJ1 := hide J1
        have HHK := hide hk
        clear hx hab J1
        have p1 : wr.cell? ⟨g1, 0, none⟩ = some (.int .i64 x1) := HO1.out.cell 0 rfl
        have pf1 := HO1.out.fr 0
        have p2 : wr.cell? ⟨g2, 0, none⟩ = some (.int .i64 x2) := HO2.out.cell 0 rfl
        have pf2 := HO2.out.fr 0
        have p3 : wr.cell? ⟨g3, 0, none⟩ = some (.int .i64 x3) := HO3.out.cell 0 rfl
        have pf3 := HO3.out.fr 0
        have p4 : wr.cell? ⟨g4, 0, none⟩ = some (.int .i64 x4) := HO4.out.cell 0 rfl
        have pf4 := HO4.out.fr 0
        have ne12 : ¬ g1 = g2 := by omega
        have ne13 : ¬ g1 = g3 := by omega
        have ne14 : ¬ g1 = g4 := by omega
        have ne21 : ¬ g2 = g1 := by omega
        have ne23 : ¬ g2 = g3 := by omega
        have ne24 : ¬ g2 = g4 := by omega
        have ne31 : ¬ g3 = g1 := by omega
        have ne32 : ¬ g3 = g2 := by omega
        have ne34 : ¬ g3 = g4 := by omega
        have ne41 : ¬ g4 = g1 := by omega
        have ne42 : ¬ g4 = g2 := by omega
        have ne43 : ¬ g4 = g3 := by omega
        have HL1 := hide l1
        clear l1 l2 l3 l4
        have zu := upV_in HFI.out J0
        have zd := dnV_in HFI.out J0
        have HZU := hide zu
        have HZD := hide zd
        clear zu zd
        rcases rem2 x with e1 | e1 <;> cases P
        · have HX : Hid (Ob ((((wr.setCell ⟨g1, 0, none⟩ (.int .i64 0)).setCell ⟨g2, 0, none⟩ (.int .i64 0)).setCell ⟨g3, 0, none⟩ (.int .i64 0)).setCell ⟨g4, 0, none⟩ (.int .i64 0)) g1 2 (intC [0, flagN Q, flagN false]).toArray ∧ Ob ((((wr.setCell ⟨g1, 0, none⟩ (.int .i64 0)).setCell ⟨g2, 0, none⟩ (.int .i64 0)).setCell ⟨g3, 0, none⟩ (.int .i64 0)).setCell ⟨g4, 0, none⟩ (.int .i64 0)) g2 2 (intC [0, flagN R, flagN false]).toArray ∧ Ob ((((wr.setCell ⟨g1, 0, none⟩ (.int .i64 0)).setCell ⟨g2, 0, none⟩ (.int .i64 0)).setCell ⟨g3, 0, none⟩ (.int .i64 0)).setCell ⟨g4, 0, none⟩ (.int .i64 0)) g3 2 (intC [0, 0, 10, flagN Q3, upV F J, flagN false]).toArray ∧ Ob ((((wr.setCell ⟨g1, 0, none⟩ (.int .i64 0)).setCell ⟨g2, 0, none⟩ (.int .i64 0)).setCell ⟨g3, 0, none⟩ (.int .i64 0)).setCell ⟨g4, 0, none⟩ (.int .i64 0)) g4 2 (intC [0, 0, 10, flagN Q4, dnV F J, flagN false]).toArray ∧ Below w.heap.size w ((((wr.setCell ⟨g1, 0, none⟩ (.int .i64 0)).setCell ⟨g2, 0, none⟩ (.int .i64 0)).setCell ⟨g3, 0, none⟩ (.int .i64 0)).setCell ⟨g4, 0, none⟩ (.int .i64 0))) := ⟨(((HO1.out.set 0 _ rfl).far ne12 _ _).far ne13 _ _).far ne14 _ _, (((HO2.out.far ne21 _ _).set 0 _ rfl).far ne23 _ _).far ne24 _ _, (((HO3.out.far ne31 _ _).far ne32 _ _).set 0 _ rfl).far ne34 _ _, (((HO4.out.far ne41 _ _).far ne42 _ _).far ne43 _ _).set 0 _ rfl, ((((HB.out.setCell HL1.out _).setCell (Nat.le_trans HL1.out (Nat.le_of_lt HL.out.2.1)) _).setCell (Nat.le_trans HL1.out (Nat.le_of_lt (Nat.lt_trans HL.out.2.1 HL.out.2.2.1))) _).setCell (Nat.le_trans HL1.out (Nat.le_of_lt (Nat.lt_trans (Nat.lt_trans HL.out.2.1 HL.out.2.2.1) HL.out.2.2.2))) _)⟩
          have m6 : Hid (∀ W, Below w.heap.size w W → Ob W g1 2 (intC [0, flagN Q, flagN false]).toArray → Calls Tryd.prog 10 #[.int .i64 6, .slice (some ⟨g1, 0, none⟩) 3 3, .int .i64 0] W fun e w' => ∃ g, e = .returned (.tuple #[.slice (some ⟨g, 0, none⟩) 3 3, .int .i64 0]) ∧ Ob w' g 2 (intC [0, flagN false, flagN false]).toArray ∧ W.heap.size ≤ g ∧ Below W.heap.size W w') := fun W hb ho => step_own 6 [0, flagN Q, flagN false] [0, flagN false, flagN false] 0 (by cases Q <;> decide +kernel) (by cases Q <;> decide +kernel) g1 2 3 3 3 rfl rfl W (HG.out W hb) ho
          have m7 : Hid (∀ W, Below w.heap.size w W → Ob W g2 2 (intC [0, flagN R, flagN false]).toArray → Calls Tryd.prog 10 #[.int .i64 7, .slice (some ⟨g2, 0, none⟩) 3 3, .int .i64 0] W fun e w' => ∃ g, e = .returned (.tuple #[.slice (some ⟨g, 0, none⟩) 3 3, .int .i64 0]) ∧ Ob w' g 2 (intC [0, flagN false, flagN false]).toArray ∧ W.heap.size ≤ g ∧ Below W.heap.size W w') := fun W hb ho => step_own 7 [0, flagN R, flagN false] [0, flagN false, flagN false] 0 (by cases R <;> decide +kernel) (by cases R <;> decide +kernel) g2 2 3 3 3 rfl rfl W (HG.out W hb) ho
          have m4 : Hid (∀ W, Below w.heap.size w W → Ob W g3 2 (intC [0, 0, 10, flagN Q3, upV F J, flagN false]).toArray → Calls Tryd.prog 10 #[.int .i64 4, .slice (some ⟨g3, 0, none⟩) 6 6, .int .i64 0] W fun e w' => ∃ g, e = .returned (.tuple #[.slice (some ⟨g, 0, none⟩) 6 6, .int .i64 0]) ∧ Ob w' g 2 (intC [0, 0, 10, flagN (decide (10 ≤ upV F J)), upV F J, flagN false]).toArray ∧ W.heap.size ≤ g ∧ Below W.heap.size W w') := fun W hb ho => step_own 4 [0, 0, 10, flagN Q3, upV F J, flagN false] _ 0 (ctu_row false false Q3 (upV F J) HZU.out).1 ((ctu_row false false Q3 (upV F J) HZU.out).2) g3 2 6 6 6 rfl rfl W (HG.out W hb) ho
          have m5 : Hid (∀ W, Below w.heap.size w W → Ob W g4 2 (intC [0, 0, 10, flagN Q4, dnV F J, flagN false]).toArray → Calls Tryd.prog 10 #[.int .i64 5, .slice (some ⟨g4, 0, none⟩) 6 6, .int .i64 0] W fun e w' => ∃ g, e = .returned (.tuple #[.slice (some ⟨g, 0, none⟩) 6 6, .int .i64 0]) ∧ Ob w' g 2 (intC [0, 0, 10, flagN (decide (dnV F J ≤ 0)), dnV F J, flagN false]).toArray ∧ W.heap.size ≤ g ∧ Below W.heap.size W w') := fun W hb ho => step_own 5 [0, 0, 10, flagN Q4, dnV F J, flagN false] _ 0 (ctd_row false false Q4 (dnV F J) HZD.out).1 ((ctd_row false false Q4 (dnV F J) HZD.out).2) g4 2 6 6 6 rfl rfl W (HG.out W hb) ho
          have emin : ∀ (ts : Array TypeId) (t : TypeId) (W : World), (Builtin.min_ ts t #[.int .i64 32767, .int .i64 (F + J)]).run Tryd.prog W = .ok (.int .i64 (upV F J)) W := fun ts t W => by rw [run_min_int2]; exact congrArg (fun z => Result.ok (Value.int .i64 z) W) (by unfold upV; split <;> omega)
          have emax : ∀ (ts : Array TypeId) (t : TypeId) (W : World), (Builtin.max_ ts t #[.int .i64 (-32768), .int .i64 (F - J)]).run Tryd.prog W = .ok (.int .i64 (dnV F J)) W := fun ts t W => by rw [run_max_int2]; exact congrArg (fun z => Result.ok (Value.int .i64 z) W) (by unfold dnV; split <;> omega)
          go_wp2_with fail
          obtain ⟨k1, k2, k3, k4, k5⟩ := HX.out
          clear HX
          generalize ((((wr.setCell ⟨g1, 0, none⟩ (.int .i64 0)).setCell ⟨g2, 0, none⟩ (.int .i64 0)).setCell ⟨g3, 0, none⟩ (.int .i64 0)).setCell ⟨g4, 0, none⟩ (.int .i64 0)) = W4 at *
          have K1 := hide k1
          have K2 := hide k2
          have K3 := hide k3
          have K4 := hide k4
          have K5 := hide k5
          clear k1 k2 k3 k4 k5
          go_wp2_with (first | (go_at_call 10; first | ((with_reducible refine (m6.out W4 K5.out K1.out).mono ?_); rintro e_ w2 ⟨G1, rfl, o2, l2, b2⟩; have O2 := hide o2; have L2 := hide l2; have B2 := hide b2; clear o2 l2 b2; have BB2 := hide (K5.out.trans (B2.out.mono K5.out.size)); have OO2 := hide (K2.out.on B2.out K2.out.lt)) | ((with_reducible refine (m7.out _ BB2.out OO2.out).mono ?_); rintro e_ w3 ⟨G2, rfl, o3, l3, b3⟩; have O3 := hide o3; have L3 := hide l3; have B3 := hide b3; clear o3 l3 b3; have BB3 := hide (BB2.out.trans (B3.out.mono BB2.out.size)); have OO3 := hide ((K3.out.on B2.out K3.out.lt).on B3.out (K3.out.on B2.out K3.out.lt).lt)) | ((with_reducible refine (m4.out _ BB3.out OO3.out).mono ?_); rintro e_ w4 ⟨G3, rfl, o4, l4, b4⟩; have O4 := hide o4; have L4 := hide l4; have B4 := hide b4; clear o4 l4 b4; have BB4 := hide (BB3.out.trans (B4.out.mono BB3.out.size)); have OO4 := hide (((K4.out.on B2.out K4.out.lt).on B3.out (K4.out.on B2.out K4.out.lt).lt).on B4.out ((K4.out.on B2.out K4.out.lt).on B3.out (K4.out.on B2.out K4.out.lt).lt).lt)) | ((with_reducible refine (m5.out _ BB4.out OO4.out).mono ?_); rintro e_ w5 ⟨G4, rfl, o5, l5, b5⟩; have O5 := hide o5; have L5 := hide l5; have B5 := hide b5; clear o5 l5 b5; have R1 := hide (((O2.out.on B3.out O2.out.lt).on B4.out (O2.out.on B3.out O2.out.lt).lt).on B5.out ((O2.out.on B3.out O2.out.lt).on B4.out (O2.out.on B3.out O2.out.lt).lt).lt); have R2 := hide ((O3.out.on B4.out O3.out.lt).on B5.out (O3.out.on B4.out O3.out.lt).lt); have R3 := hide (O4.out.on B5.out O4.out.lt); have d1 : w5.cell? ⟨G1, 1, none⟩ = some (.int .i64 0) := R1.out.cell 1 rfl; have d2 : w5.cell? ⟨G2, 1, none⟩ = some (.int .i64 0) := R2.out.cell 1 rfl; have d3 : w5.cell? ⟨G3, 4, none⟩ = some (.int .i64 (upV F J)) := R3.out.cell 4 rfl; have d4 : w5.cell? ⟨G4, 4, none⟩ = some (.int .i64 (dnV F J)) := O5.out.cell 4 rfl)))
          go_roundw
          case rel => exact ⟨k + 1, false, false, false, decide (10 ≤ upV F J), decide (dnV F J ≤ 0), J, G1, G2, G3, G4, 0, 0, 0, 0, by omega, by omega, by have := HJ1.out; omega, by go_num, rfl, rfl, rfl, rfl, rfl, rfl, R1.out, R2.out, R3.out, O5.out, Nat.le_trans K5.out.size L2.out, Nat.lt_of_lt_of_le O2.out.lt L3.out, Nat.lt_of_lt_of_le O3.out.lt L4.out, Nat.lt_of_lt_of_le O4.out.lt L5.out, BB4.out.trans (B5.out.mono BB4.out.size)⟩
          case measure => simp [intOf]; omega
        · have HX : Hid (Ob ((((wr.setCell ⟨g1, 0, none⟩ (.int .i64 0)).setCell ⟨g2, 0, none⟩ (.int .i64 0)).setCell ⟨g3, 0, none⟩ (.int .i64 0)).setCell ⟨g4, 0, none⟩ (.int .i64 0)) g1 2 (intC [0, flagN Q, flagN true]).toArray ∧ Ob ((((wr.setCell ⟨g1, 0, none⟩ (.int .i64 0)).setCell ⟨g2, 0, none⟩ (.int .i64 0)).setCell ⟨g3, 0, none⟩ (.int .i64 0)).setCell ⟨g4, 0, none⟩ (.int .i64 0)) g2 2 (intC [0, flagN R, flagN true]).toArray ∧ Ob ((((wr.setCell ⟨g1, 0, none⟩ (.int .i64 0)).setCell ⟨g2, 0, none⟩ (.int .i64 0)).setCell ⟨g3, 0, none⟩ (.int .i64 0)).setCell ⟨g4, 0, none⟩ (.int .i64 0)) g3 2 (intC [0, 0, 10, flagN Q3, upV F J, flagN true]).toArray ∧ Ob ((((wr.setCell ⟨g1, 0, none⟩ (.int .i64 0)).setCell ⟨g2, 0, none⟩ (.int .i64 0)).setCell ⟨g3, 0, none⟩ (.int .i64 0)).setCell ⟨g4, 0, none⟩ (.int .i64 0)) g4 2 (intC [0, 0, 10, flagN Q4, dnV F J, flagN true]).toArray ∧ Below w.heap.size w ((((wr.setCell ⟨g1, 0, none⟩ (.int .i64 0)).setCell ⟨g2, 0, none⟩ (.int .i64 0)).setCell ⟨g3, 0, none⟩ (.int .i64 0)).setCell ⟨g4, 0, none⟩ (.int .i64 0))) := ⟨(((HO1.out.set 0 _ rfl).far ne12 _ _).far ne13 _ _).far ne14 _ _, (((HO2.out.far ne21 _ _).set 0 _ rfl).far ne23 _ _).far ne24 _ _, (((HO3.out.far ne31 _ _).far ne32 _ _).set 0 _ rfl).far ne34 _ _, (((HO4.out.far ne41 _ _).far ne42 _ _).far ne43 _ _).set 0 _ rfl, ((((HB.out.setCell HL1.out _).setCell (Nat.le_trans HL1.out (Nat.le_of_lt HL.out.2.1)) _).setCell (Nat.le_trans HL1.out (Nat.le_of_lt (Nat.lt_trans HL.out.2.1 HL.out.2.2.1))) _).setCell (Nat.le_trans HL1.out (Nat.le_of_lt (Nat.lt_trans (Nat.lt_trans HL.out.2.1 HL.out.2.2.1) HL.out.2.2.2))) _)⟩
          have m6 : Hid (∀ W, Below w.heap.size w W → Ob W g1 2 (intC [0, flagN Q, flagN true]).toArray → Calls Tryd.prog 10 #[.int .i64 6, .slice (some ⟨g1, 0, none⟩) 3 3, .int .i64 0] W fun e w' => ∃ g, e = .returned (.tuple #[.slice (some ⟨g, 0, none⟩) 3 3, .int .i64 0]) ∧ Ob w' g 2 (intC [0, flagN false, flagN false]).toArray ∧ W.heap.size ≤ g ∧ Below W.heap.size W w') := fun W hb ho => step_own 6 [0, flagN Q, flagN true] [0, flagN false, flagN false] 0 (by cases Q <;> decide +kernel) (by cases Q <;> decide +kernel) g1 2 3 3 3 rfl rfl W (HG.out W hb) ho
          have m7 : Hid (∀ W, Below w.heap.size w W → Ob W g2 2 (intC [0, flagN R, flagN true]).toArray → Calls Tryd.prog 10 #[.int .i64 7, .slice (some ⟨g2, 0, none⟩) 3 3, .int .i64 0] W fun e w' => ∃ g, e = .returned (.tuple #[.slice (some ⟨g, 0, none⟩) 3 3, .int .i64 0]) ∧ Ob w' g 2 (intC [0, flagN true, flagN false]).toArray ∧ W.heap.size ≤ g ∧ Below W.heap.size W w') := fun W hb ho => step_own 7 [0, flagN R, flagN true] [0, flagN true, flagN false] 0 (by cases R <;> decide +kernel) (by cases R <;> decide +kernel) g2 2 3 3 3 rfl rfl W (HG.out W hb) ho
          have m4 : Hid (∀ W, Below w.heap.size w W → Ob W g3 2 (intC [0, 0, 10, flagN Q3, upV F J, flagN true]).toArray → Calls Tryd.prog 10 #[.int .i64 4, .slice (some ⟨g3, 0, none⟩) 6 6, .int .i64 0] W fun e w' => ∃ g, e = .returned (.tuple #[.slice (some ⟨g, 0, none⟩) 6 6, .int .i64 0]) ∧ Ob w' g 2 (intC [0, 0, 10, flagN (decide (10 ≤ upV F J)), upV F J, flagN false]).toArray ∧ W.heap.size ≤ g ∧ Below W.heap.size W w') := fun W hb ho => step_own 4 [0, 0, 10, flagN Q3, upV F J, flagN true] _ 0 (ctu_row false true Q3 (upV F J) HZU.out).1 ((ctu_row false true Q3 (upV F J) HZU.out).2) g3 2 6 6 6 rfl rfl W (HG.out W hb) ho
          have m5 : Hid (∀ W, Below w.heap.size w W → Ob W g4 2 (intC [0, 0, 10, flagN Q4, dnV F J, flagN true]).toArray → Calls Tryd.prog 10 #[.int .i64 5, .slice (some ⟨g4, 0, none⟩) 6 6, .int .i64 0] W fun e w' => ∃ g, e = .returned (.tuple #[.slice (some ⟨g, 0, none⟩) 6 6, .int .i64 0]) ∧ Ob w' g 2 (intC [0, 0, 10, flagN (decide (dnV F J ≤ 0)), dnV F J, flagN false]).toArray ∧ W.heap.size ≤ g ∧ Below W.heap.size W w') := fun W hb ho => step_own 5 [0, 0, 10, flagN Q4, dnV F J, flagN true] _ 0 (ctd_row false true Q4 (dnV F J) HZD.out).1 ((ctd_row false true Q4 (dnV F J) HZD.out).2) g4 2 6 6 6 rfl rfl W (HG.out W hb) ho
          have emin : ∀ (ts : Array TypeId) (t : TypeId) (W : World), (Builtin.min_ ts t #[.int .i64 32767, .int .i64 (F + J)]).run Tryd.prog W = .ok (.int .i64 (upV F J)) W := fun ts t W => by rw [run_min_int2]; exact congrArg (fun z => Result.ok (Value.int .i64 z) W) (by unfold upV; split <;> omega)
          have emax : ∀ (ts : Array TypeId) (t : TypeId) (W : World), (Builtin.max_ ts t #[.int .i64 (-32768), .int .i64 (F - J)]).run Tryd.prog W = .ok (.int .i64 (dnV F J)) W := fun ts t W => by rw [run_max_int2]; exact congrArg (fun z => Result.ok (Value.int .i64 z) W) (by unfold dnV; split <;> omega)
          go_wp2_with fail
          obtain ⟨k1, k2, k3, k4, k5⟩ := HX.out
          clear HX
          generalize ((((wr.setCell ⟨g1, 0, none⟩ (.int .i64 0)).setCell ⟨g2, 0, none⟩ (.int .i64 0)).setCell ⟨g3, 0, none⟩ (.int .i64 0)).setCell ⟨g4, 0, none⟩ (.int .i64 0)) = W4 at *
          have K1 := hide k1
          have K2 := hide k2
          have K3 := hide k3
          have K4 := hide k4
          have K5 := hide k5
          clear k1 k2 k3 k4 k5
          go_wp2_with (first | (go_at_call 10; first | ((with_reducible refine (m6.out W4 K5.out K1.out).mono ?_); rintro e_ w2 ⟨G1, rfl, o2, l2, b2⟩; have O2 := hide o2; have L2 := hide l2; have B2 := hide b2; clear o2 l2 b2; have BB2 := hide (K5.out.trans (B2.out.mono K5.out.size)); have OO2 := hide (K2.out.on B2.out K2.out.lt)) | ((with_reducible refine (m7.out _ BB2.out OO2.out).mono ?_); rintro e_ w3 ⟨G2, rfl, o3, l3, b3⟩; have O3 := hide o3; have L3 := hide l3; have B3 := hide b3; clear o3 l3 b3; have BB3 := hide (BB2.out.trans (B3.out.mono BB2.out.size)); have OO3 := hide ((K3.out.on B2.out K3.out.lt).on B3.out (K3.out.on B2.out K3.out.lt).lt)) | ((with_reducible refine (m4.out _ BB3.out OO3.out).mono ?_); rintro e_ w4 ⟨G3, rfl, o4, l4, b4⟩; have O4 := hide o4; have L4 := hide l4; have B4 := hide b4; clear o4 l4 b4; have BB4 := hide (BB3.out.trans (B4.out.mono BB3.out.size)); have OO4 := hide (((K4.out.on B2.out K4.out.lt).on B3.out (K4.out.on B2.out K4.out.lt).lt).on B4.out ((K4.out.on B2.out K4.out.lt).on B3.out (K4.out.on B2.out K4.out.lt).lt).lt)) | ((with_reducible refine (m5.out _ BB4.out OO4.out).mono ?_); rintro e_ w5 ⟨G4, rfl, o5, l5, b5⟩; have O5 := hide o5; have L5 := hide l5; have B5 := hide b5; clear o5 l5 b5; have R1 := hide (((O2.out.on B3.out O2.out.lt).on B4.out (O2.out.on B3.out O2.out.lt).lt).on B5.out ((O2.out.on B3.out O2.out.lt).on B4.out (O2.out.on B3.out O2.out.lt).lt).lt); have R2 := hide ((O3.out.on B4.out O3.out.lt).on B5.out (O3.out.on B4.out O3.out.lt).lt); have R3 := hide (O4.out.on B5.out O4.out.lt); have d1 : w5.cell? ⟨G1, 1, none⟩ = some (.int .i64 0) := R1.out.cell 1 rfl; have d2 : w5.cell? ⟨G2, 1, none⟩ = some (.int .i64 1) := R2.out.cell 1 rfl; have d3 : w5.cell? ⟨G3, 4, none⟩ = some (.int .i64 (upV F J)) := R3.out.cell 4 rfl; have d4 : w5.cell? ⟨G4, 4, none⟩ = some (.int .i64 (dnV F J)) := O5.out.cell 4 rfl)))
          go_roundw
          case rel => exact ⟨k + 1, false, false, true, decide (10 ≤ upV F J), decide (dnV F J ≤ 0), J, G1, G2, G3, G4, 0, 0, 0, 0, by omega, by omega, by have := HJ1.out; omega, by go_num, rfl, rfl, rfl, rfl, rfl, rfl, R1.out, R2.out, R3.out, O5.out, Nat.le_trans K5.out.size L2.out, Nat.lt_of_lt_of_le O2.out.lt L3.out, Nat.lt_of_lt_of_le O3.out.lt L4.out, Nat.lt_of_lt_of_le O4.out.lt L5.out, BB4.out.trans (B5.out.mono BB4.out.size)⟩
          case measure => simp [intOf]; omega
        · have HX : Hid (Ob ((((wr.setCell ⟨g1, 0, none⟩ (.int .i64 1)).setCell ⟨g2, 0, none⟩ (.int .i64 1)).setCell ⟨g3, 0, none⟩ (.int .i64 1)).setCell ⟨g4, 0, none⟩ (.int .i64 1)) g1 2 (intC [1, flagN Q, flagN false]).toArray ∧ Ob ((((wr.setCell ⟨g1, 0, none⟩ (.int .i64 1)).setCell ⟨g2, 0, none⟩ (.int .i64 1)).setCell ⟨g3, 0, none⟩ (.int .i64 1)).setCell ⟨g4, 0, none⟩ (.int .i64 1)) g2 2 (intC [1, flagN R, flagN false]).toArray ∧ Ob ((((wr.setCell ⟨g1, 0, none⟩ (.int .i64 1)).setCell ⟨g2, 0, none⟩ (.int .i64 1)).setCell ⟨g3, 0, none⟩ (.int .i64 1)).setCell ⟨g4, 0, none⟩ (.int .i64 1)) g3 2 (intC [1, 0, 10, flagN Q3, upV F J, flagN false]).toArray ∧ Ob ((((wr.setCell ⟨g1, 0, none⟩ (.int .i64 1)).setCell ⟨g2, 0, none⟩ (.int .i64 1)).setCell ⟨g3, 0, none⟩ (.int .i64 1)).setCell ⟨g4, 0, none⟩ (.int .i64 1)) g4 2 (intC [1, 0, 10, flagN Q4, dnV F J, flagN false]).toArray ∧ Below w.heap.size w ((((wr.setCell ⟨g1, 0, none⟩ (.int .i64 1)).setCell ⟨g2, 0, none⟩ (.int .i64 1)).setCell ⟨g3, 0, none⟩ (.int .i64 1)).setCell ⟨g4, 0, none⟩ (.int .i64 1))) := ⟨(((HO1.out.set 0 _ rfl).far ne12 _ _).far ne13 _ _).far ne14 _ _, (((HO2.out.far ne21 _ _).set 0 _ rfl).far ne23 _ _).far ne24 _ _, (((HO3.out.far ne31 _ _).far ne32 _ _).set 0 _ rfl).far ne34 _ _, (((HO4.out.far ne41 _ _).far ne42 _ _).far ne43 _ _).set 0 _ rfl, ((((HB.out.setCell HL1.out _).setCell (Nat.le_trans HL1.out (Nat.le_of_lt HL.out.2.1)) _).setCell (Nat.le_trans HL1.out (Nat.le_of_lt (Nat.lt_trans HL.out.2.1 HL.out.2.2.1))) _).setCell (Nat.le_trans HL1.out (Nat.le_of_lt (Nat.lt_trans (Nat.lt_trans HL.out.2.1 HL.out.2.2.1) HL.out.2.2.2))) _)⟩
          have m6 : Hid (∀ W, Below w.heap.size w W → Ob W g1 2 (intC [1, flagN Q, flagN false]).toArray → Calls Tryd.prog 10 #[.int .i64 6, .slice (some ⟨g1, 0, none⟩) 3 3, .int .i64 0] W fun e w' => ∃ g, e = .returned (.tuple #[.slice (some ⟨g, 0, none⟩) 3 3, .int .i64 0]) ∧ Ob w' g 2 (intC [1, flagN true, flagN true]).toArray ∧ W.heap.size ≤ g ∧ Below W.heap.size W w') := fun W hb ho => step_own 6 [1, flagN Q, flagN false] [1, flagN true, flagN true] 0 (by cases Q <;> decide +kernel) (by cases Q <;> decide +kernel) g1 2 3 3 3 rfl rfl W (HG.out W hb) ho
          have m7 : Hid (∀ W, Below w.heap.size w W → Ob W g2 2 (intC [1, flagN R, flagN false]).toArray → Calls Tryd.prog 10 #[.int .i64 7, .slice (some ⟨g2, 0, none⟩) 3 3, .int .i64 0] W fun e w' => ∃ g, e = .returned (.tuple #[.slice (some ⟨g, 0, none⟩) 3 3, .int .i64 0]) ∧ Ob w' g 2 (intC [1, flagN false, flagN true]).toArray ∧ W.heap.size ≤ g ∧ Below W.heap.size W w') := fun W hb ho => step_own 7 [1, flagN R, flagN false] [1, flagN false, flagN true] 0 (by cases R <;> decide +kernel) (by cases R <;> decide +kernel) g2 2 3 3 3 rfl rfl W (HG.out W hb) ho
          have m4 : Hid (∀ W, Below w.heap.size w W → Ob W g3 2 (intC [1, 0, 10, flagN Q3, upV F J, flagN false]).toArray → Calls Tryd.prog 10 #[.int .i64 4, .slice (some ⟨g3, 0, none⟩) 6 6, .int .i64 0] W fun e w' => ∃ g, e = .returned (.tuple #[.slice (some ⟨g, 0, none⟩) 6 6, .int .i64 0]) ∧ Ob w' g 2 (intC [1, 0, 10, flagN (decide (10 ≤ upV F (J + 1))), upV F (J + 1), flagN true]).toArray ∧ W.heap.size ≤ g ∧ Below W.heap.size W w') := fun W hb ho => step_own 4 [1, 0, 10, flagN Q3, upV F J, flagN false] _ 0 (ctu_row true false Q3 (upV F J) HZU.out).1 ((ctu_row true false Q3 (upV F J) HZU.out).2.trans (by rw [← upV_next F J]; rfl)) g3 2 6 6 6 rfl rfl W (HG.out W hb) ho
          have m5 : Hid (∀ W, Below w.heap.size w W → Ob W g4 2 (intC [1, 0, 10, flagN Q4, dnV F J, flagN false]).toArray → Calls Tryd.prog 10 #[.int .i64 5, .slice (some ⟨g4, 0, none⟩) 6 6, .int .i64 0] W fun e w' => ∃ g, e = .returned (.tuple #[.slice (some ⟨g, 0, none⟩) 6 6, .int .i64 0]) ∧ Ob w' g 2 (intC [1, 0, 10, flagN (decide (dnV F (J + 1) ≤ 0)), dnV F (J + 1), flagN true]).toArray ∧ W.heap.size ≤ g ∧ Below W.heap.size W w') := fun W hb ho => step_own 5 [1, 0, 10, flagN Q4, dnV F J, flagN false] _ 0 (ctd_row true false Q4 (dnV F J) HZD.out).1 ((ctd_row true false Q4 (dnV F J) HZD.out).2.trans (by rw [← dnV_next F J]; rfl)) g4 2 6 6 6 rfl rfl W (HG.out W hb) ho
          have emin : ∀ (ts : Array TypeId) (t : TypeId) (W : World), (Builtin.min_ ts t #[.int .i64 32767, .int .i64 (F + (J + 1))]).run Tryd.prog W = .ok (.int .i64 (upV F (J + 1))) W := fun ts t W => by rw [run_min_int2]; exact congrArg (fun z => Result.ok (Value.int .i64 z) W) (by unfold upV; split <;> omega)
          have emax : ∀ (ts : Array TypeId) (t : TypeId) (W : World), (Builtin.max_ ts t #[.int .i64 (-32768), .int .i64 (F - (J + 1))]).run Tryd.prog W = .ok (.int .i64 (dnV F (J + 1))) W := fun ts t W => by rw [run_max_int2]; exact congrArg (fun z => Result.ok (Value.int .i64 z) W) (by unfold dnV; split <;> omega)
          go_wp2_with fail
          obtain ⟨k1, k2, k3, k4, k5⟩ := HX.out
          clear HX
          generalize ((((wr.setCell ⟨g1, 0, none⟩ (.int .i64 1)).setCell ⟨g2, 0, none⟩ (.int .i64 1)).setCell ⟨g3, 0, none⟩ (.int .i64 1)).setCell ⟨g4, 0, none⟩ (.int .i64 1)) = W4 at *
          have K1 := hide k1
          have K2 := hide k2
          have K3 := hide k3
          have K4 := hide k4
          have K5 := hide k5
          clear k1 k2 k3 k4 k5
          go_wp2_with (first | (go_at_call 10; first | ((with_reducible refine (m6.out W4 K5.out K1.out).mono ?_); rintro e_ w2 ⟨G1, rfl, o2, l2, b2⟩; have O2 := hide o2; have L2 := hide l2; have B2 := hide b2; clear o2 l2 b2; have BB2 := hide (K5.out.trans (B2.out.mono K5.out.size)); have OO2 := hide (K2.out.on B2.out K2.out.lt)) | ((with_reducible refine (m7.out _ BB2.out OO2.out).mono ?_); rintro e_ w3 ⟨G2, rfl, o3, l3, b3⟩; have O3 := hide o3; have L3 := hide l3; have B3 := hide b3; clear o3 l3 b3; have BB3 := hide (BB2.out.trans (B3.out.mono BB2.out.size)); have OO3 := hide ((K3.out.on B2.out K3.out.lt).on B3.out (K3.out.on B2.out K3.out.lt).lt)) | ((with_reducible refine (m4.out _ BB3.out OO3.out).mono ?_); rintro e_ w4 ⟨G3, rfl, o4, l4, b4⟩; have O4 := hide o4; have L4 := hide l4; have B4 := hide b4; clear o4 l4 b4; have BB4 := hide (BB3.out.trans (B4.out.mono BB3.out.size)); have OO4 := hide (((K4.out.on B2.out K4.out.lt).on B3.out (K4.out.on B2.out K4.out.lt).lt).on B4.out ((K4.out.on B2.out K4.out.lt).on B3.out (K4.out.on B2.out K4.out.lt).lt).lt)) | ((with_reducible refine (m5.out _ BB4.out OO4.out).mono ?_); rintro e_ w5 ⟨G4, rfl, o5, l5, b5⟩; have O5 := hide o5; have L5 := hide l5; have B5 := hide b5; clear o5 l5 b5; have R1 := hide (((O2.out.on B3.out O2.out.lt).on B4.out (O2.out.on B3.out O2.out.lt).lt).on B5.out ((O2.out.on B3.out O2.out.lt).on B4.out (O2.out.on B3.out O2.out.lt).lt).lt); have R2 := hide ((O3.out.on B4.out O3.out.lt).on B5.out (O3.out.on B4.out O3.out.lt).lt); have R3 := hide (O4.out.on B5.out O4.out.lt); have d1 : w5.cell? ⟨G1, 1, none⟩ = some (.int .i64 1) := R1.out.cell 1 rfl; have d2 : w5.cell? ⟨G2, 1, none⟩ = some (.int .i64 0) := R2.out.cell 1 rfl; have d3 : w5.cell? ⟨G3, 4, none⟩ = some (.int .i64 (upV F (J + 1))) := R3.out.cell 4 rfl; have d4 : w5.cell? ⟨G4, 4, none⟩ = some (.int .i64 (dnV F (J + 1))) := O5.out.cell 4 rfl)))
          go_roundw
          case rel => exact ⟨k + 1, true, true, false, decide (10 ≤ upV F (J + 1)), decide (dnV F (J + 1) ≤ 0), (J + 1), G1, G2, G3, G4, 1, 1, 1, 1, by omega, by omega, by have := HJ1.out; omega, by go_num, rfl, rfl, rfl, rfl, rfl, rfl, R1.out, R2.out, R3.out, O5.out, Nat.le_trans K5.out.size L2.out, Nat.lt_of_lt_of_le O2.out.lt L3.out, Nat.lt_of_lt_of_le O3.out.lt L4.out, Nat.lt_of_lt_of_le O4.out.lt L5.out, BB4.out.trans (B5.out.mono BB4.out.size)⟩
          case measure => simp [intOf]; omega
        · have HX : Hid (Ob ((((wr.setCell ⟨g1, 0, none⟩ (.int .i64 1)).setCell ⟨g2, 0, none⟩ (.int .i64 1)).setCell ⟨g3, 0, none⟩ (.int .i64 1)).setCell ⟨g4, 0, none⟩ (.int .i64 1)) g1 2 (intC [1, flagN Q, flagN true]).toArray ∧ Ob ((((wr.setCell ⟨g1, 0, none⟩ (.int .i64 1)).setCell ⟨g2, 0, none⟩ (.int .i64 1)).setCell ⟨g3, 0, none⟩ (.int .i64 1)).setCell ⟨g4, 0, none⟩ (.int .i64 1)) g2 2 (intC [1, flagN R, flagN true]).toArray ∧ Ob ((((wr.setCell ⟨g1, 0, none⟩ (.int .i64 1)).setCell ⟨g2, 0, none⟩ (.int .i64 1)).setCell ⟨g3, 0, none⟩ (.int .i64 1)).setCell ⟨g4, 0, none⟩ (.int .i64 1)) g3 2 (intC [1, 0, 10, flagN Q3, upV F J, flagN true]).toArray ∧ Ob ((((wr.setCell ⟨g1, 0, none⟩ (.int .i64 1)).setCell ⟨g2, 0, none⟩ (.int .i64 1)).setCell ⟨g3, 0, none⟩ (.int .i64 1)).setCell ⟨g4, 0, none⟩ (.int .i64 1)) g4 2 (intC [1, 0, 10, flagN Q4, dnV F J, flagN true]).toArray ∧ Below w.heap.size w ((((wr.setCell ⟨g1, 0, none⟩ (.int .i64 1)).setCell ⟨g2, 0, none⟩ (.int .i64 1)).setCell ⟨g3, 0, none⟩ (.int .i64 1)).setCell ⟨g4, 0, none⟩ (.int .i64 1))) := ⟨(((HO1.out.set 0 _ rfl).far ne12 _ _).far ne13 _ _).far ne14 _ _, (((HO2.out.far ne21 _ _).set 0 _ rfl).far ne23 _ _).far ne24 _ _, (((HO3.out.far ne31 _ _).far ne32 _ _).set 0 _ rfl).far ne34 _ _, (((HO4.out.far ne41 _ _).far ne42 _ _).far ne43 _ _).set 0 _ rfl, ((((HB.out.setCell HL1.out _).setCell (Nat.le_trans HL1.out (Nat.le_of_lt HL.out.2.1)) _).setCell (Nat.le_trans HL1.out (Nat.le_of_lt (Nat.lt_trans HL.out.2.1 HL.out.2.2.1))) _).setCell (Nat.le_trans HL1.out (Nat.le_of_lt (Nat.lt_trans (Nat.lt_trans HL.out.2.1 HL.out.2.2.1) HL.out.2.2.2))) _)⟩
          have m6 : Hid (∀ W, Below w.heap.size w W → Ob W g1 2 (intC [1, flagN Q, flagN true]).toArray → Calls Tryd.prog 10 #[.int .i64 6, .slice (some ⟨g1, 0, none⟩) 3 3, .int .i64 0] W fun e w' => ∃ g, e = .returned (.tuple #[.slice (some ⟨g, 0, none⟩) 3 3, .int .i64 0]) ∧ Ob w' g 2 (intC [1, flagN false, flagN true]).toArray ∧ W.heap.size ≤ g ∧ Below W.heap.size W w') := fun W hb ho => step_own 6 [1, flagN Q, flagN true] [1, flagN false, flagN true] 0 (by cases Q <;> decide +kernel) (by cases Q <;> decide +kernel) g1 2 3 3 3 rfl rfl W (HG.out W hb) ho
          have m7 : Hid (∀ W, Below w.heap.size w W → Ob W g2 2 (intC [1, flagN R, flagN true]).toArray → Calls Tryd.prog 10 #[.int .i64 7, .slice (some ⟨g2, 0, none⟩) 3 3, .int .i64 0] W fun e w' => ∃ g, e = .returned (.tuple #[.slice (some ⟨g, 0, none⟩) 3 3, .int .i64 0]) ∧ Ob w' g 2 (intC [1, flagN false, flagN true]).toArray ∧ W.heap.size ≤ g ∧ Below W.heap.size W w') := fun W hb ho => step_own 7 [1, flagN R, flagN true] [1, flagN false, flagN true] 0 (by cases R <;> decide +kernel) (by cases R <;> decide +kernel) g2 2 3 3 3 rfl rfl W (HG.out W hb) ho
          have m4 : Hid (∀ W, Below w.heap.size w W → Ob W g3 2 (intC [1, 0, 10, flagN Q3, upV F J, flagN true]).toArray → Calls Tryd.prog 10 #[.int .i64 4, .slice (some ⟨g3, 0, none⟩) 6 6, .int .i64 0] W fun e w' => ∃ g, e = .returned (.tuple #[.slice (some ⟨g, 0, none⟩) 6 6, .int .i64 0]) ∧ Ob w' g 2 (intC [1, 0, 10, flagN (decide (10 ≤ upV F J)), upV F J, flagN true]).toArray ∧ W.heap.size ≤ g ∧ Below W.heap.size W w') := fun W hb ho => step_own 4 [1, 0, 10, flagN Q3, upV F J, flagN true] _ 0 (ctu_row true true Q3 (upV F J) HZU.out).1 ((ctu_row true true Q3 (upV F J) HZU.out).2) g3 2 6 6 6 rfl rfl W (HG.out W hb) ho
          have m5 : Hid (∀ W, Below w.heap.size w W → Ob W g4 2 (intC [1, 0, 10, flagN Q4, dnV F J, flagN true]).toArray → Calls Tryd.prog 10 #[.int .i64 5, .slice (some ⟨g4, 0, none⟩) 6 6, .int .i64 0] W fun e w' => ∃ g, e = .returned (.tuple #[.slice (some ⟨g, 0, none⟩) 6 6, .int .i64 0]) ∧ Ob w' g 2 (intC [1, 0, 10, flagN (decide (dnV F J ≤ 0)), dnV F J, flagN true]).toArray ∧ W.heap.size ≤ g ∧ Below W.heap.size W w') := fun W hb ho => step_own 5 [1, 0, 10, flagN Q4, dnV F J, flagN true] _ 0 (ctd_row true true Q4 (dnV F J) HZD.out).1 ((ctd_row true true Q4 (dnV F J) HZD.out).2) g4 2 6 6 6 rfl rfl W (HG.out W hb) ho
          have emin : ∀ (ts : Array TypeId) (t : TypeId) (W : World), (Builtin.min_ ts t #[.int .i64 32767, .int .i64 (F + J)]).run Tryd.prog W = .ok (.int .i64 (upV F J)) W := fun ts t W => by rw [run_min_int2]; exact congrArg (fun z => Result.ok (Value.int .i64 z) W) (by unfold upV; split <;> omega)
          have emax : ∀ (ts : Array TypeId) (t : TypeId) (W : World), (Builtin.max_ ts t #[.int .i64 (-32768), .int .i64 (F - J)]).run Tryd.prog W = .ok (.int .i64 (dnV F J)) W := fun ts t W => by rw [run_max_int2]; exact congrArg (fun z => Result.ok (Value.int .i64 z) W) (by unfold dnV; split <;> omega)
          go_wp2_with fail
          obtain ⟨k1, k2, k3, k4, k5⟩ := HX.out
          clear HX
          generalize ((((wr.setCell ⟨g1, 0, none⟩ (.int .i64 1)).setCell ⟨g2, 0, none⟩ (.int .i64 1)).setCell ⟨g3, 0, none⟩ (.int .i64 1)).setCell ⟨g4, 0, none⟩ (.int .i64 1)) = W4 at *
          have K1 := hide k1
          have K2 := hide k2
          have K3 := hide k3
          have K4 := hide k4
          have K5 := hide k5
          clear k1 k2 k3 k4 k5
          go_wp2_with (first | (go_at_call 10; first | ((with_reducible refine (m6.out W4 K5.out K1.out).mono ?_); rintro e_ w2 ⟨G1, rfl, o2, l2, b2⟩; have O2 := hide o2; have L2 := hide l2; have B2 := hide b2; clear o2 l2 b2; have BB2 := hide (K5.out.trans (B2.out.mono K5.out.size)); have OO2 := hide (K2.out.on B2.out K2.out.lt)) | ((with_reducible refine (m7.out _ BB2.out OO2.out).mono ?_); rintro e_ w3 ⟨G2, rfl, o3, l3, b3⟩; have O3 := hide o3; have L3 := hide l3; have B3 := hide b3; clear o3 l3 b3; have BB3 := hide (BB2.out.trans (B3.out.mono BB2.out.size)); have OO3 := hide ((K3.out.on B2.out K3.out.lt).on B3.out (K3.out.on B2.out K3.out.lt).lt)) | ((with_reducible refine (m4.out _ BB3.out OO3.out).mono ?_); rintro e_ w4 ⟨G3, rfl, o4, l4, b4⟩; have O4 := hide o4; have L4 := hide l4; have B4 := hide b4; clear o4 l4 b4; have BB4 := hide (BB3.out.trans (B4.out.mono BB3.out.size)); have OO4 := hide (((K4.out.on B2.out K4.out.lt).on B3.out (K4.out.on B2.out K4.out.lt).lt).on B4.out ((K4.out.on B2.out K4.out.lt).on B3.out (K4.out.on B2.out K4.out.lt).lt).lt)) | ((with_reducible refine (m5.out _ BB4.out OO4.out).mono ?_); rintro e_ w5 ⟨G4, rfl, o5, l5, b5⟩; have O5 := hide o5; have L5 := hide l5; have B5 := hide b5; clear o5 l5 b5; have R1 := hide (((O2.out.on B3.out O2.out.lt).on B4.out (O2.out.on B3.out O2.out.lt).lt).on B5.out ((O2.out.on B3.out O2.out.lt).on B4.out (O2.out.on B3.out O2.out.lt).lt).lt); have R2 := hide ((O3.out.on B4.out O3.out.lt).on B5.out (O3.out.on B4.out O3.out.lt).lt); have R3 := hide (O4.out.on B5.out O4.out.lt); have d1 : w5.cell? ⟨G1, 1, none⟩ = some (.int .i64 0) := R1.out.cell 1 rfl; have d2 : w5.cell? ⟨G2, 1, none⟩ = some (.int .i64 0) := R2.out.cell 1 rfl; have d3 : w5.cell? ⟨G3, 4, none⟩ = some (.int .i64 (upV F J)) := R3.out.cell 4 rfl; have d4 : w5.cell? ⟨G4, 4, none⟩ = some (.int .i64 (dnV F J)) := O5.out.cell 4 rfl)))
          go_roundw
          case rel => exact ⟨k + 1, true, false, false, decide (10 ≤ upV F J), decide (dnV F J ≤ 0), J, G1, G2, G3, G4, 1, 1, 1, 1, by omega, by omega, by have := HJ1.out; omega, by go_num, rfl, rfl, rfl, rfl, rfl, rfl, R1.out, R2.out, R3.out, O5.out, Nat.le_trans K5.out.size L2.out, Nat.lt_of_lt_of_le O2.out.lt L3.out, Nat.lt_of_lt_of_le O3.out.lt L4.out, Nat.lt_of_lt_of_le O4.out.lt L5.out, BB4.out.trans (B5.out.mono BB4.out.size)⟩
          case measure => simp [intOf]; omega
      · go_wp2
        go_ret
        exact ⟨rfl, HB.out⟩
    · go_wp2
      go_ret
      exact ⟨rfl, HB.out⟩
end Go.Proofs.YthifgfhgkdjkfaaDoor
