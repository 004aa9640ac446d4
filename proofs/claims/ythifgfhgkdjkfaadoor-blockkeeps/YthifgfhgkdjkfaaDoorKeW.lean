/- The walk of BlockKeeps. -/
import Derived.Test.YthifgfhgkdjkfaaDoorCfP
namespace Go.Proofs.YthifgfhgkdjkfaaDoor
open Go.RowKit
set_option maxRecDepth 100000 in
set_option maxHeartbeats 3200000 in
theorem keeps_row (av : Value) (la : List Int) (bv : Value) (lb : List Int) (w : World) (hA : ILst w av la) (hB : ILst w bv lb) (hg : Glo w) :
    Calls Tryd.prog 7 #[av, bv] w fun e w' => e = .returned (.bool true) ∧ Below w.heap.size w w' := by
  have mw := works_any w hg
  have HG : Hid (∀ W, Below w.heap.size w W → Glo W) := fun W h => hg.below h hg.lt
  obtain ⟨aa, ab, aoff, acap, rfl, haA, haI⟩ := hA
  obtain ⟨ba, bb, boff, bcap, rfl, hbA, hbI⟩ := hB
  have HAA := hide haA
  have HAI := hide haI
  have HBA := hide hbA
  have HBI := hide hbI
  obtain ⟨n1, hn1⟩ : ∃ n, n = la.length := ⟨_, rfl⟩
  obtain ⟨n2, hn2⟩ : ∃ n, n = lb.length := ⟨_, rfl⟩
  rw [← hn1, ← hn2]
  have HN1 := hide hn1
  have HN2 := hide hn2
  clear hg haA haI hbA hbI hn1 hn2
  go_enter Tryd.func7, Tryd.ntmps7
  go_wp2_with (first | (go_at_call 15; refine mw.mono ?_; rintro e w1 ⟨rfl, b1⟩; have B1 := hide b1; clear b1))
  have HW : Hid (Ob ((w1.alloc (.cells #[.int .i64 0, .int .i64 0, .int .i64 0] 2)).alloc (.cells #[.int .i64 0, .int .i64 0, .int .i64 0] 2)) w1.heap.size 2 (intC [0, 0, flagN false]).toArray ∧ Ob ((w1.alloc (.cells #[.int .i64 0, .int .i64 0, .int .i64 0] 2)).alloc (.cells #[.int .i64 0, .int .i64 0, .int .i64 0] 2)) (w1.heap.size + 1) 2 (intC [0, 0, flagN false]).toArray ∧ Below w.heap.size w ((w1.alloc (.cells #[.int .i64 0, .int .i64 0, .int .i64 0] 2)).alloc (.cells #[.int .i64 0, .int .i64 0, .int .i64 0] 2))) := by
    have o1 := Ob.new w1 2 #[.int .i64 0, .int .i64 0, .int .i64 0]
    have o2 := Ob.new (w1.alloc (.cells #[.int .i64 0, .int .i64 0, .int .i64 0] 2)) 2 #[.int .i64 0, .int .i64 0, .int .i64 0]
    rw [World.size_alloc] at o2
    exact ⟨o1.on ((Below.refl _ _).alloc (Nat.le_refl _) _) o1.lt, o2, (B1.out.alloc B1.out.size _).alloc (Nat.le_trans B1.out.size (by simp)) _⟩
  have HZ := hide B1.out.size
  generalize ((w1.alloc (.cells #[.int .i64 0, .int .i64 0, .int .i64 0] 2)).alloc (.cells #[.int .i64 0, .int .i64 0, .int .i64 0] 2)) = W0 at *
  go_loopw [5, 6, 7, 8, 9] (fun v5 v6 a b i wr => ∃ (k : Nat) (A B : Bool) (g1 g2 : Nat) (x1 x2 y1 y2 : Int), k ≤ 100 ∧ i = .int .i64 (k : Int) ∧ a = .int .i64 (flagN A) ∧ b = .int .i64 (flagN B) ∧ v5 = .slice (some ⟨g1, 0, none⟩) 3 3 ∧ v6 = .slice (some ⟨g2, 0, none⟩) 3 3 ∧ Hid (Ob wr g1 2 (intC [x1, x2, flagN A]).toArray ∧ Ob wr g2 2 (intC [y1, y2, flagN B]).toArray ∧ g1 ≠ g2 ∧ w.heap.size ≤ g1 ∧ w.heap.size ≤ g2 ∧ Below w.heap.size w wr)) (fun _ _ _ _ i _ => 101 - (intOf i).toNat)
  case atStart => exact ⟨0, false, false, w1.heap.size, w1.heap.size + 1, 0, 0, 0, 0, by omega, rfl, rfl, rfl, rfl, rfl, HW.out.1, HW.out.2.1, by omega, HZ.out, Nat.le_trans HZ.out (Nat.le_succ _), HW.out.2.2⟩
  case round =>
    obtain ⟨k, A, B, g1, g2, x1, x2, y1, y2, hk, rfl, rfl, rfl, rfl, rfl, hh⟩ := hrel
    have HO1 := hide hh.out.1
    have HO2 := hide hh.out.2.1
    have HNE := hide hh.out.2.2.1
    have HL1 := hide hh.out.2.2.2.1
    have HL2 := hide hh.out.2.2.2.2.1
    have HB := hide hh.out.2.2.2.2.2
    clear hh HW
    by_cases h1 : (k : Int) < (n1 : Int)
    · by_cases h2 : (k : Int) < (n2 : Int)
      · by_cases h3 : (k : Int) < 100
        · have j0 : (0 : Int) ≤ (k : Int) := by omega
          obtain ⟨x, hx⟩ : ∃ x, la[k]? = some x := ⟨_, List.getElem?_eq_getElem (by rw [← HN1.out]; omega)⟩
          obtain ⟨y, hy⟩ : ∃ y, lb[k]? = some y := ⟨_, List.getElem?_eq_getElem (by rw [← HN2.out]; omega)⟩
          obtain ⟨hab, rfl⟩ := HAA.out (by rw [← HN1.out]; omega)
          obtain ⟨hbb, rfl⟩ := HBA.out (by rw [← HN2.out]; omega)
          have ca := (HB.out.cell (p := ⟨ab, aoff + k, none⟩) hab).trans (HAI.out k x hx)
          have cb := (HB.out.cell (p := ⟨bb, boff + k, none⟩) hbb).trans (HBI.out k y hy)
          have p0 : wr.cell? ⟨g1, 0, none⟩ = some (.int .i64 x1) := HO1.out.cell 0 rfl
          have p1 : wr.cell? ⟨g1, 1, none⟩ = some (.int .i64 x2) := HO1.out.cell 1 rfl
          have pf0 := HO1.out.fr 0
          have pf1 := HO1.out.fr 1
          have q0 : wr.cell? ⟨g2, 0, none⟩ = some (.int .i64 y1) := HO2.out.cell 0 rfl
          have q1 : wr.cell? ⟨g2, 1, none⟩ = some (.int .i64 y2) := HO2.out.cell 1 rfl
          have qf0 := HO2.out.fr 0
          have qf1 := HO2.out.fr 1
          have ne1 : ¬ g1 = g2 := HNE.out
          have ne2 : ¬ g2 = g1 := fun h => HNE.out h.symm
          clear hx hy hab hbb
          rcases rem2 x with e1 | e1 <;> rcases rem2 y with e2 | e2
          · have HX : Hid (∀ nq, Ob (((((wr.drewN nq).setCell ⟨g1, 0, none⟩ (.int .i64 0)).setCell ⟨g1, 1, none⟩ (.int .i64 0)).setCell ⟨g2, 0, none⟩ (.int .i64 0)).setCell ⟨g2, 1, none⟩ (.int .i64 0)) g1 2 (intC [0, 0, flagN A]).toArray ∧ Ob (((((wr.drewN nq).setCell ⟨g1, 0, none⟩ (.int .i64 0)).setCell ⟨g1, 1, none⟩ (.int .i64 0)).setCell ⟨g2, 0, none⟩ (.int .i64 0)).setCell ⟨g2, 1, none⟩ (.int .i64 0)) g2 2 (intC [0, 0, flagN B]).toArray ∧ Below w.heap.size w (((((wr.drewN nq).setCell ⟨g1, 0, none⟩ (.int .i64 0)).setCell ⟨g1, 1, none⟩ (.int .i64 0)).setCell ⟨g2, 0, none⟩ (.int .i64 0)).setCell ⟨g2, 1, none⟩ (.int .i64 0))) := fun nq => ⟨((((HO1.out.drew nq).set 0 _ rfl).set 1 _ rfl).far ne1 _ _).far ne1 _ _, (((HO2.out.drew nq).far ne2 _ _).far ne2 _ _ |>.set 0 _ rfl).set 1 _ rfl, (((((below_drewN HB.out nq).setCell HL1.out _).setCell HL1.out _).setCell HL2.out _).setCell HL2.out _)⟩
            have m8 : Hid (∀ W, Below w.heap.size w W → Ob W g1 2 (intC [0, 0, flagN A]).toArray → Calls Tryd.prog 10 #[.int .i64 8, .slice (some ⟨g1, 0, none⟩) 3 3, .int .i64 0] W fun e w' => ∃ g, e = .returned (.tuple #[.slice (some ⟨g, 0, none⟩) 3 3, .int .i64 0]) ∧ Ob w' g 2 (intC [0, 0, flagN A]).toArray ∧ W.heap.size ≤ g ∧ Below W.heap.size W w') := fun W hb ho => step_own 8 [0, 0, flagN A] [0, 0, flagN A] 0 (by cases A <;> decide +kernel) (by cases A <;> decide +kernel) g1 2 3 3 3 rfl rfl W (HG.out W hb) ho
            have m9 : Hid (∀ W, Below w.heap.size w W → Ob W g2 2 (intC [0, 0, flagN B]).toArray → Calls Tryd.prog 10 #[.int .i64 9, .slice (some ⟨g2, 0, none⟩) 3 3, .int .i64 0] W fun e w' => ∃ g, e = .returned (.tuple #[.slice (some ⟨g, 0, none⟩) 3 3, .int .i64 0]) ∧ Ob w' g 2 (intC [0, 0, flagN B]).toArray ∧ W.heap.size ≤ g ∧ Below W.heap.size W w') := fun W hb ho => step_own 9 [0, 0, flagN B] [0, 0, flagN B] 0 (by cases B <;> decide +kernel) (by cases B <;> decide +kernel) g2 2 3 3 3 rfl rfl W (HG.out W hb) ho
            go_wp2_with fail
            go_quiet (fail)
            go_wp2_with fail
            obtain ⟨k1, k2, k3⟩ := HX.out nq
            clear HX
            generalize (((((wr.drewN nq).setCell ⟨g1, 0, none⟩ (.int .i64 0)).setCell ⟨g1, 1, none⟩ (.int .i64 0)).setCell ⟨g2, 0, none⟩ (.int .i64 0)).setCell ⟨g2, 1, none⟩ (.int .i64 0)) = W4 at *
            have K1 := hide k1
            have K2 := hide k2
            have K3 := hide k3
            clear k1 k2 k3
            go_wp2_with (first | (go_at_call 10; first | ((with_reducible refine (m8.out W4 K3.out K1.out).mono ?_); rintro e_ w2 ⟨G1, rfl, o2, l2, b2⟩; have O2 := hide o2; have L2 := hide l2; have B2 := hide b2; clear o2 l2 b2; have BB2 := hide (K3.out.trans (B2.out.mono K3.out.size)); have OO2 := hide (K2.out.on B2.out K2.out.lt)) | ((with_reducible refine (m9.out _ BB2.out OO2.out).mono ?_); rintro e_ w3 ⟨G2, rfl, o3, l3, b3⟩; have O3 := hide o3; have L3 := hide l3; have B3 := hide b3; clear o3 l3 b3; have d1 : w3.cell? ⟨G1, 2, none⟩ = some (.int .i64 (flagN A)) := (O2.out.on B3.out O2.out.lt).cell 2 rfl; have d2 : w3.cell? ⟨G2, 2, none⟩ = some (.int .i64 (flagN B)) := O3.out.cell 2 rfl)))
            go_roundw
            case rel => exact ⟨k + 1, A, B, G1, G2, 0, 0, 0, 0, by omega, by go_num, rfl, rfl, rfl, rfl, O2.out.on B3.out O2.out.lt, O3.out, fun h => (by have := O2.out.lt; have := L3.out; omega), Nat.le_trans K3.out.size L2.out, Nat.le_trans BB2.out.size L3.out, BB2.out.trans (B3.out.mono BB2.out.size)⟩
            case measure => simp [intOf]; omega
          · have HX : Hid (∀ nq, Ob (((((wr.drewN nq).setCell ⟨g1, 0, none⟩ (.int .i64 0)).setCell ⟨g1, 1, none⟩ (.int .i64 1)).setCell ⟨g2, 0, none⟩ (.int .i64 0)).setCell ⟨g2, 1, none⟩ (.int .i64 1)) g1 2 (intC [0, 1, flagN A]).toArray ∧ Ob (((((wr.drewN nq).setCell ⟨g1, 0, none⟩ (.int .i64 0)).setCell ⟨g1, 1, none⟩ (.int .i64 1)).setCell ⟨g2, 0, none⟩ (.int .i64 0)).setCell ⟨g2, 1, none⟩ (.int .i64 1)) g2 2 (intC [0, 1, flagN B]).toArray ∧ Below w.heap.size w (((((wr.drewN nq).setCell ⟨g1, 0, none⟩ (.int .i64 0)).setCell ⟨g1, 1, none⟩ (.int .i64 1)).setCell ⟨g2, 0, none⟩ (.int .i64 0)).setCell ⟨g2, 1, none⟩ (.int .i64 1))) := fun nq => ⟨((((HO1.out.drew nq).set 0 _ rfl).set 1 _ rfl).far ne1 _ _).far ne1 _ _, (((HO2.out.drew nq).far ne2 _ _).far ne2 _ _ |>.set 0 _ rfl).set 1 _ rfl, (((((below_drewN HB.out nq).setCell HL1.out _).setCell HL1.out _).setCell HL2.out _).setCell HL2.out _)⟩
            have m8 : Hid (∀ W, Below w.heap.size w W → Ob W g1 2 (intC [0, 1, flagN A]).toArray → Calls Tryd.prog 10 #[.int .i64 8, .slice (some ⟨g1, 0, none⟩) 3 3, .int .i64 0] W fun e w' => ∃ g, e = .returned (.tuple #[.slice (some ⟨g, 0, none⟩) 3 3, .int .i64 0]) ∧ Ob w' g 2 (intC [0, 1, flagN false]).toArray ∧ W.heap.size ≤ g ∧ Below W.heap.size W w') := fun W hb ho => step_own 8 [0, 1, flagN A] [0, 1, flagN false] 0 (by cases A <;> decide +kernel) (by cases A <;> decide +kernel) g1 2 3 3 3 rfl rfl W (HG.out W hb) ho
            have m9 : Hid (∀ W, Below w.heap.size w W → Ob W g2 2 (intC [0, 1, flagN B]).toArray → Calls Tryd.prog 10 #[.int .i64 9, .slice (some ⟨g2, 0, none⟩) 3 3, .int .i64 0] W fun e w' => ∃ g, e = .returned (.tuple #[.slice (some ⟨g, 0, none⟩) 3 3, .int .i64 0]) ∧ Ob w' g 2 (intC [0, 1, flagN false]).toArray ∧ W.heap.size ≤ g ∧ Below W.heap.size W w') := fun W hb ho => step_own 9 [0, 1, flagN B] [0, 1, flagN false] 0 (by cases B <;> decide +kernel) (by cases B <;> decide +kernel) g2 2 3 3 3 rfl rfl W (HG.out W hb) ho
            go_wp2_with fail
            go_quiet (fail)
            go_wp2_with fail
            obtain ⟨k1, k2, k3⟩ := HX.out nq
            clear HX
            generalize (((((wr.drewN nq).setCell ⟨g1, 0, none⟩ (.int .i64 0)).setCell ⟨g1, 1, none⟩ (.int .i64 1)).setCell ⟨g2, 0, none⟩ (.int .i64 0)).setCell ⟨g2, 1, none⟩ (.int .i64 1)) = W4 at *
            have K1 := hide k1
            have K2 := hide k2
            have K3 := hide k3
            clear k1 k2 k3
            go_wp2_with (first | (go_at_call 10; first | ((with_reducible refine (m8.out W4 K3.out K1.out).mono ?_); rintro e_ w2 ⟨G1, rfl, o2, l2, b2⟩; have O2 := hide o2; have L2 := hide l2; have B2 := hide b2; clear o2 l2 b2; have BB2 := hide (K3.out.trans (B2.out.mono K3.out.size)); have OO2 := hide (K2.out.on B2.out K2.out.lt)) | ((with_reducible refine (m9.out _ BB2.out OO2.out).mono ?_); rintro e_ w3 ⟨G2, rfl, o3, l3, b3⟩; have O3 := hide o3; have L3 := hide l3; have B3 := hide b3; clear o3 l3 b3; have d1 : w3.cell? ⟨G1, 2, none⟩ = some (.int .i64  0) := (O2.out.on B3.out O2.out.lt).cell 2 rfl; have d2 : w3.cell? ⟨G2, 2, none⟩ = some (.int .i64  0) := O3.out.cell 2 rfl)))
            go_roundw
            case rel => exact ⟨k + 1, false, false, G1, G2, 0, 1, 0, 1, by omega, by go_num, rfl, rfl, rfl, rfl, O2.out.on B3.out O2.out.lt, O3.out, fun h => (by have := O2.out.lt; have := L3.out; omega), Nat.le_trans K3.out.size L2.out, Nat.le_trans BB2.out.size L3.out, BB2.out.trans (B3.out.mono BB2.out.size)⟩
            case measure => simp [intOf]; omega
          · have HX : Hid (∀ nq, Ob (((((wr.drewN nq).setCell ⟨g1, 0, none⟩ (.int .i64 1)).setCell ⟨g1, 1, none⟩ (.int .i64 0)).setCell ⟨g2, 0, none⟩ (.int .i64 1)).setCell ⟨g2, 1, none⟩ (.int .i64 0)) g1 2 (intC [1, 0, flagN A]).toArray ∧ Ob (((((wr.drewN nq).setCell ⟨g1, 0, none⟩ (.int .i64 1)).setCell ⟨g1, 1, none⟩ (.int .i64 0)).setCell ⟨g2, 0, none⟩ (.int .i64 1)).setCell ⟨g2, 1, none⟩ (.int .i64 0)) g2 2 (intC [1, 0, flagN B]).toArray ∧ Below w.heap.size w (((((wr.drewN nq).setCell ⟨g1, 0, none⟩ (.int .i64 1)).setCell ⟨g1, 1, none⟩ (.int .i64 0)).setCell ⟨g2, 0, none⟩ (.int .i64 1)).setCell ⟨g2, 1, none⟩ (.int .i64 0))) := fun nq => ⟨((((HO1.out.drew nq).set 0 _ rfl).set 1 _ rfl).far ne1 _ _).far ne1 _ _, (((HO2.out.drew nq).far ne2 _ _).far ne2 _ _ |>.set 0 _ rfl).set 1 _ rfl, (((((below_drewN HB.out nq).setCell HL1.out _).setCell HL1.out _).setCell HL2.out _).setCell HL2.out _)⟩
            have m8 : Hid (∀ W, Below w.heap.size w W → Ob W g1 2 (intC [1, 0, flagN A]).toArray → Calls Tryd.prog 10 #[.int .i64 8, .slice (some ⟨g1, 0, none⟩) 3 3, .int .i64 0] W fun e w' => ∃ g, e = .returned (.tuple #[.slice (some ⟨g, 0, none⟩) 3 3, .int .i64 0]) ∧ Ob w' g 2 (intC [1, 0, flagN true]).toArray ∧ W.heap.size ≤ g ∧ Below W.heap.size W w') := fun W hb ho => step_own 8 [1, 0, flagN A] [1, 0, flagN true] 0 (by cases A <;> decide +kernel) (by cases A <;> decide +kernel) g1 2 3 3 3 rfl rfl W (HG.out W hb) ho
            have m9 : Hid (∀ W, Below w.heap.size w W → Ob W g2 2 (intC [1, 0, flagN B]).toArray → Calls Tryd.prog 10 #[.int .i64 9, .slice (some ⟨g2, 0, none⟩) 3 3, .int .i64 0] W fun e w' => ∃ g, e = .returned (.tuple #[.slice (some ⟨g, 0, none⟩) 3 3, .int .i64 0]) ∧ Ob w' g 2 (intC [1, 0, flagN true]).toArray ∧ W.heap.size ≤ g ∧ Below W.heap.size W w') := fun W hb ho => step_own 9 [1, 0, flagN B] [1, 0, flagN true] 0 (by cases B <;> decide +kernel) (by cases B <;> decide +kernel) g2 2 3 3 3 rfl rfl W (HG.out W hb) ho
            go_wp2_with fail
            go_quiet (fail)
            go_wp2_with fail
            obtain ⟨k1, k2, k3⟩ := HX.out nq
            clear HX
            generalize (((((wr.drewN nq).setCell ⟨g1, 0, none⟩ (.int .i64 1)).setCell ⟨g1, 1, none⟩ (.int .i64 0)).setCell ⟨g2, 0, none⟩ (.int .i64 1)).setCell ⟨g2, 1, none⟩ (.int .i64 0)) = W4 at *
            have K1 := hide k1
            have K2 := hide k2
            have K3 := hide k3
            clear k1 k2 k3
            go_wp2_with (first | (go_at_call 10; first | ((with_reducible refine (m8.out W4 K3.out K1.out).mono ?_); rintro e_ w2 ⟨G1, rfl, o2, l2, b2⟩; have O2 := hide o2; have L2 := hide l2; have B2 := hide b2; clear o2 l2 b2; have BB2 := hide (K3.out.trans (B2.out.mono K3.out.size)); have OO2 := hide (K2.out.on B2.out K2.out.lt)) | ((with_reducible refine (m9.out _ BB2.out OO2.out).mono ?_); rintro e_ w3 ⟨G2, rfl, o3, l3, b3⟩; have O3 := hide o3; have L3 := hide l3; have B3 := hide b3; clear o3 l3 b3; have d1 : w3.cell? ⟨G1, 2, none⟩ = some (.int .i64  1) := (O2.out.on B3.out O2.out.lt).cell 2 rfl; have d2 : w3.cell? ⟨G2, 2, none⟩ = some (.int .i64  1) := O3.out.cell 2 rfl)))
            go_roundw
            case rel => exact ⟨k + 1, true, true, G1, G2, 1, 0, 1, 0, by omega, by go_num, rfl, rfl, rfl, rfl, O2.out.on B3.out O2.out.lt, O3.out, fun h => (by have := O2.out.lt; have := L3.out; omega), Nat.le_trans K3.out.size L2.out, Nat.le_trans BB2.out.size L3.out, BB2.out.trans (B3.out.mono BB2.out.size)⟩
            case measure => simp [intOf]; omega
          · have HX : Hid (∀ nq, Ob (((((wr.drewN nq).setCell ⟨g1, 0, none⟩ (.int .i64 1)).setCell ⟨g1, 1, none⟩ (.int .i64 1)).setCell ⟨g2, 0, none⟩ (.int .i64 1)).setCell ⟨g2, 1, none⟩ (.int .i64 1)) g1 2 (intC [1, 1, flagN A]).toArray ∧ Ob (((((wr.drewN nq).setCell ⟨g1, 0, none⟩ (.int .i64 1)).setCell ⟨g1, 1, none⟩ (.int .i64 1)).setCell ⟨g2, 0, none⟩ (.int .i64 1)).setCell ⟨g2, 1, none⟩ (.int .i64 1)) g2 2 (intC [1, 1, flagN B]).toArray ∧ Below w.heap.size w (((((wr.drewN nq).setCell ⟨g1, 0, none⟩ (.int .i64 1)).setCell ⟨g1, 1, none⟩ (.int .i64 1)).setCell ⟨g2, 0, none⟩ (.int .i64 1)).setCell ⟨g2, 1, none⟩ (.int .i64 1))) := fun nq => ⟨((((HO1.out.drew nq).set 0 _ rfl).set 1 _ rfl).far ne1 _ _).far ne1 _ _, (((HO2.out.drew nq).far ne2 _ _).far ne2 _ _ |>.set 0 _ rfl).set 1 _ rfl, (((((below_drewN HB.out nq).setCell HL1.out _).setCell HL1.out _).setCell HL2.out _).setCell HL2.out _)⟩
            have m8 : Hid (∀ W, Below w.heap.size w W → Ob W g1 2 (intC [1, 1, flagN A]).toArray → Calls Tryd.prog 10 #[.int .i64 8, .slice (some ⟨g1, 0, none⟩) 3 3, .int .i64 0] W fun e w' => ∃ g, e = .returned (.tuple #[.slice (some ⟨g, 0, none⟩) 3 3, .int .i64 0]) ∧ Ob w' g 2 (intC [1, 1, flagN true]).toArray ∧ W.heap.size ≤ g ∧ Below W.heap.size W w') := fun W hb ho => step_own 8 [1, 1, flagN A] [1, 1, flagN true] 0 (by cases A <;> decide +kernel) (by cases A <;> decide +kernel) g1 2 3 3 3 rfl rfl W (HG.out W hb) ho
            have m9 : Hid (∀ W, Below w.heap.size w W → Ob W g2 2 (intC [1, 1, flagN B]).toArray → Calls Tryd.prog 10 #[.int .i64 9, .slice (some ⟨g2, 0, none⟩) 3 3, .int .i64 0] W fun e w' => ∃ g, e = .returned (.tuple #[.slice (some ⟨g, 0, none⟩) 3 3, .int .i64 0]) ∧ Ob w' g 2 (intC [1, 1, flagN false]).toArray ∧ W.heap.size ≤ g ∧ Below W.heap.size W w') := fun W hb ho => step_own 9 [1, 1, flagN B] [1, 1, flagN false] 0 (by cases B <;> decide +kernel) (by cases B <;> decide +kernel) g2 2 3 3 3 rfl rfl W (HG.out W hb) ho
            go_wp2_with fail
            go_quiet (fail)
            go_wp2_with fail
            obtain ⟨k1, k2, k3⟩ := HX.out nq
            clear HX
            generalize (((((wr.drewN nq).setCell ⟨g1, 0, none⟩ (.int .i64 1)).setCell ⟨g1, 1, none⟩ (.int .i64 1)).setCell ⟨g2, 0, none⟩ (.int .i64 1)).setCell ⟨g2, 1, none⟩ (.int .i64 1)) = W4 at *
            have K1 := hide k1
            have K2 := hide k2
            have K3 := hide k3
            clear k1 k2 k3
            go_wp2_with (first | (go_at_call 10; first | ((with_reducible refine (m8.out W4 K3.out K1.out).mono ?_); rintro e_ w2 ⟨G1, rfl, o2, l2, b2⟩; have O2 := hide o2; have L2 := hide l2; have B2 := hide b2; clear o2 l2 b2; have BB2 := hide (K3.out.trans (B2.out.mono K3.out.size)); have OO2 := hide (K2.out.on B2.out K2.out.lt)) | ((with_reducible refine (m9.out _ BB2.out OO2.out).mono ?_); rintro e_ w3 ⟨G2, rfl, o3, l3, b3⟩; have O3 := hide o3; have L3 := hide l3; have B3 := hide b3; clear o3 l3 b3; have d1 : w3.cell? ⟨G1, 2, none⟩ = some (.int .i64  1) := (O2.out.on B3.out O2.out.lt).cell 2 rfl; have d2 : w3.cell? ⟨G2, 2, none⟩ = some (.int .i64  0) := O3.out.cell 2 rfl)))
            go_roundw
            case rel => exact ⟨k + 1, true, false, G1, G2, 1, 1, 1, 1, by omega, by go_num, rfl, rfl, rfl, rfl, O2.out.on B3.out O2.out.lt, O3.out, fun h => (by have := O2.out.lt; have := L3.out; omega), Nat.le_trans K3.out.size L2.out, Nat.le_trans BB2.out.size L3.out, BB2.out.trans (B3.out.mono BB2.out.size)⟩
            case measure => simp [intOf]; omega
        · go_wp2
          go_ret
          exact ⟨rfl, HB.out⟩
      · go_wp2
        go_ret
        exact ⟨rfl, HB.out⟩
    · go_wp2
      go_ret
      exact ⟨rfl, HB.out⟩
end Go.Proofs.YthifgfhgkdjkfaaDoor
