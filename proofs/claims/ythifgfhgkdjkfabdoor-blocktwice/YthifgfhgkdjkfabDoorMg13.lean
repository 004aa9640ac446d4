/- block: an object of a kind, stepped. | block.stepped and block.Step, whole. -/
import Derived.Test.YthifgfhgkdjkfabDoorMg11
import Derived.Test.YthifgfhgkdjkfabDoorMg7
import Derived.Test.YthifgfhgkdjkfabDoorMg12
namespace Go.Proofs.YthifgfhgkdjkfabDoor
open Go.RowKit
set_option maxRecDepth 100000 in
theorem ms_8 (g : Nat) (w : World) : (method 248 80 (.pointer (some ⟨g, 0, none⟩)) "capstan/block.step").run Tryd.prog w = .ok (73, .pointer (some ⟨g, 0, none⟩)) w := by rfl
set_option maxRecDepth 100000 in
theorem mc_8 (g : Nat) (w : World) : (method 248 80 (.pointer (some ⟨g, 0, none⟩)) "capstan/block.cells").run Tryd.prog w = .ok (72, .pointer (some ⟨g, 0, none⟩)) w := by rfl
set_option maxRecDepth 100000 in
set_option maxHeartbeats 1600000 in
theorem blockOf_8 (b off cap : Nat) (x0 x1 x2 : Int) (w : World) (mO : Calls Tryd.prog 19 #[.slice (some ⟨b, off, none⟩) 3 cap] w fun e w' => e = .returned (.agg #[.bool (x0 == 1), .bool (x1 == 1), .bool (x2 == 1)]) ∧ Below w.heap.size w w') :
    Calls Tryd.prog 14 #[.int .i64 8, .slice (some ⟨b, off, none⟩) 3 cap] w fun e w' => ∃ g, e = .returned (.iface 80 (.pointer (some ⟨g, 0, none⟩))) ∧ Ob w' g 85 (Tr.mk (x0 == 1) (x1 == 1) (x2 == 1)).ob ∧ w.heap.size ≤ g ∧ Below w.heap.size w w' := by
  go_enter Tryd.func14, Tryd.ntmps14
  go_wp2_with (first | (go_at_call 19; refine mO.mono ?_; rintro e w1 ⟨rfl, b1⟩; have B1 := hide b1; clear b1))
  go_ret
  exact ⟨w1.heap.size, rfl, Ob.new _ _ _, B1.out.size, B1.out.alloc B1.out.size _⟩
set_option maxRecDepth 100000 in
set_option maxHeartbeats 1600000 in
theorem stepO_8 (v : Value) (t : Tr) (now : Int) (w : World) (mO : Calls Tryd.prog 14 #[.int .i64 8, v] w fun e w' => ∃ g, e = .returned (.iface 80 (.pointer (some ⟨g, 0, none⟩))) ∧ Ob w' g 85 t.ob ∧ w.heap.size ≤ g ∧ Below w.heap.size w w') :
    Calls Tryd.prog 12 #[.int .i64 8, v, .int .i64 now] w (NewL w (srT t).ls) := by
  have q1 := ms_8
  have q2 := mc_8
  go_enter Tryd.func12, Tryd.ntmps12
  go_wp2_with (first | (go_at_call 14; refine mO.mono ?_; rintro e w1 ⟨g, rfl, o1, l1, b1⟩; have B1 := hide b1; have O1 := hide o1; have L1 := hide l1; clear b1 o1 l1) | (go_at_call 73; refine (sr_step g 85 now t w1 O1.out).mono ?_; rintro e w2 ⟨rfl, o2, b2⟩; have B2 := hide b2; have O2 := hide o2; clear b2 o2) | (go_at_call 72; refine (cells107 g _ _ _ 85 w2 O2.out).mono ?_; rintro e w3 ⟨rfl, rfl⟩))
  have B3 := B1.out.trans (B2.out.mono L1.out)
  go_ret
  exact ⟨w2.heap.size, rfl, Ob.new _ _ _, B3.size, (B3.alloc B3.size _).drew⟩
theorem stepped_8 (b off cap : Nat) (x0 x1 x2 : Int) (now : Int) (w : World) (c0 : w.cell? ⟨b, off, none⟩ = some (.int .i64 x0)) (c1 : w.cell? ⟨b, off + 1, none⟩ = some (.int .i64 x1)) (c2 : w.cell? ⟨b, off + 2, none⟩ = some (.int .i64 x2)) :
    Calls Tryd.prog 12 #[.int .i64 8, .slice (some ⟨b, off, none⟩) 3 cap, .int .i64 now] w (NewL w (srT (Tr.mk (x0 == 1) (x1 == 1) (x2 == 1))).ls) :=
  stepO_8 _ _ now w (blockOf_8 b off cap x0 x1 x2 w (latchOf_any b off cap x0 x1 x2 w c0 c1 c2)) 
set_option maxRecDepth 100000 in
theorem ms_9 (g : Nat) (w : World) : (method 248 86 (.pointer (some ⟨g, 0, none⟩)) "capstan/block.step").run Tryd.prog w = .ok (74, .pointer (some ⟨g, 0, none⟩)) w := by rfl
set_option maxRecDepth 100000 in
theorem mc_9 (g : Nat) (w : World) : (method 248 86 (.pointer (some ⟨g, 0, none⟩)) "capstan/block.cells").run Tryd.prog w = .ok (72, .pointer (some ⟨g, 0, none⟩)) w := by rfl
set_option maxRecDepth 100000 in
set_option maxHeartbeats 1600000 in
theorem blockOf_9 (b off cap : Nat) (x0 x1 x2 : Int) (w : World) (mO : Calls Tryd.prog 19 #[.slice (some ⟨b, off, none⟩) 3 cap] w fun e w' => e = .returned (.agg #[.bool (x0 == 1), .bool (x1 == 1), .bool (x2 == 1)]) ∧ Below w.heap.size w w') :
    Calls Tryd.prog 14 #[.int .i64 9, .slice (some ⟨b, off, none⟩) 3 cap] w fun e w' => ∃ g, e = .returned (.iface 86 (.pointer (some ⟨g, 0, none⟩))) ∧ Ob w' g 87 (Tr.mk (x0 == 1) (x1 == 1) (x2 == 1)).ob ∧ w.heap.size ≤ g ∧ Below w.heap.size w w' := by
  go_enter Tryd.func14, Tryd.ntmps14
  go_wp2_with (first | (go_at_call 19; refine mO.mono ?_; rintro e w1 ⟨rfl, b1⟩; have B1 := hide b1; clear b1))
  go_ret
  exact ⟨w1.heap.size, rfl, Ob.new _ _ _, B1.out.size, B1.out.alloc B1.out.size _⟩
set_option maxRecDepth 100000 in
set_option maxHeartbeats 1600000 in
theorem stepO_9 (v : Value) (t : Tr) (now : Int) (w : World) (mO : Calls Tryd.prog 14 #[.int .i64 9, v] w fun e w' => ∃ g, e = .returned (.iface 86 (.pointer (some ⟨g, 0, none⟩))) ∧ Ob w' g 87 t.ob ∧ w.heap.size ≤ g ∧ Below w.heap.size w w') :
    Calls Tryd.prog 12 #[.int .i64 9, v, .int .i64 now] w (NewL w (rsT t).ls) := by
  have q1 := ms_9
  have q2 := mc_9
  go_enter Tryd.func12, Tryd.ntmps12
  go_wp2_with (first | (go_at_call 14; refine mO.mono ?_; rintro e w1 ⟨g, rfl, o1, l1, b1⟩; have B1 := hide b1; have O1 := hide o1; have L1 := hide l1; clear b1 o1 l1) | (go_at_call 74; refine (rs_step g 87 now t w1 O1.out).mono ?_; rintro e w2 ⟨rfl, o2, b2⟩; have B2 := hide b2; have O2 := hide o2; clear b2 o2) | (go_at_call 72; refine (cells107 g _ _ _ 87 w2 O2.out).mono ?_; rintro e w3 ⟨rfl, rfl⟩))
  have B3 := B1.out.trans (B2.out.mono L1.out)
  go_ret
  exact ⟨w2.heap.size, rfl, Ob.new _ _ _, B3.size, (B3.alloc B3.size _).drew⟩
theorem stepped_9 (b off cap : Nat) (x0 x1 x2 : Int) (now : Int) (w : World) (c0 : w.cell? ⟨b, off, none⟩ = some (.int .i64 x0)) (c1 : w.cell? ⟨b, off + 1, none⟩ = some (.int .i64 x1)) (c2 : w.cell? ⟨b, off + 2, none⟩ = some (.int .i64 x2)) :
    Calls Tryd.prog 12 #[.int .i64 9, .slice (some ⟨b, off, none⟩) 3 cap, .int .i64 now] w (NewL w (rsT (Tr.mk (x0 == 1) (x1 == 1) (x2 == 1))).ls) :=
  stepO_9 _ _ now w (blockOf_9 b off cap x0 x1 x2 w (latchOf_any b off cap x0 x1 x2 w c0 c1 c2)) 
set_option maxRecDepth 100000 in
theorem ms_10 (g : Nat) (w : World) : (method 248 88 (.pointer (some ⟨g, 0, none⟩)) "capstan/block.step").run Tryd.prog w = .ok (77, .pointer (some ⟨g, 0, none⟩)) w := by rfl
set_option maxRecDepth 100000 in
theorem mc_10 (g : Nat) (w : World) : (method 248 88 (.pointer (some ⟨g, 0, none⟩)) "capstan/block.cells").run Tryd.prog w = .ok (75, .pointer (some ⟨g, 0, none⟩)) w := by rfl
set_option maxRecDepth 100000 in
set_option maxHeartbeats 1600000 in
theorem blockOf_10 (b off cap : Nat) (x0 x1 x2 x3 x4 x5 : Int) (w : World) (mO : Calls Tryd.prog 20 #[.slice (some ⟨b, off, none⟩) 6 cap] w fun e w' => e = .returned (.agg #[.bool (x0 == 1), .bool (x1 == 1), .bool (x2 == 1), .int .i64 x3, .bool (x4 == 1), .int .i64 x5]) ∧ Below w.heap.size w w') :
    Calls Tryd.prog 14 #[.int .i64 10, .slice (some ⟨b, off, none⟩) 6 cap] w fun e w' => ∃ g, e = .returned (.iface 88 (.pointer (some ⟨g, 0, none⟩))) ∧ Ob w' g 93 (Cd.mk (x0 == 1) (x1 == 1) (x2 == 1) x3 (x4 == 1) x5).ob ∧ w.heap.size ≤ g ∧ Below w.heap.size w w' := by
  go_enter Tryd.func14, Tryd.ntmps14
  go_wp2_with (first | (go_at_call 20; refine mO.mono ?_; rintro e w1 ⟨rfl, b1⟩; have B1 := hide b1; clear b1))
  go_ret
  exact ⟨w1.heap.size, rfl, Ob.new _ _ _, B1.out.size, B1.out.alloc B1.out.size _⟩
set_option maxRecDepth 100000 in
set_option maxHeartbeats 1600000 in
theorem stepO_10 (v : Value) (t : Cd) (now : Int) (w : World) (mO : Calls Tryd.prog 14 #[.int .i64 10, v] w fun e w' => ∃ g, e = .returned (.iface 88 (.pointer (some ⟨g, 0, none⟩))) ∧ Ob w' g 93 t.ob ∧ w.heap.size ≤ g ∧ Below w.heap.size w w') (hg : Glo w) (hv : fitB 3 t.v = true) :
    Calls Tryd.prog 12 #[.int .i64 10, v, .int .i64 now] w (NewL w (cdT t).ls) := by
  have q1 := ms_10
  have q2 := mc_10
  have HG := hide hg
  have HV := hide hv
  clear hg hv
  go_enter Tryd.func12, Tryd.ntmps12
  go_wp2_with (first | (go_at_call 14; refine mO.mono ?_; rintro e w1 ⟨g, rfl, o1, l1, b1⟩; have B1 := hide b1; have O1 := hide o1; have L1 := hide l1; clear b1 o1 l1) | (go_at_call 77; refine (quad_step g 93 now t w1 (HG.out.below B1.out HG.out.lt) (Nat.lt_of_lt_of_le HG.out.lt L1.out) HV.out O1.out).mono ?_; rintro e w2 ⟨rfl, o2, b2⟩; have B2 := hide b2; have O2 := hide o2; clear b2 o2) | (go_at_call 75; refine (cells110 g _ _ _ _ _ _ 93 w2 O2.out).mono ?_; rintro e w3 ⟨rfl, rfl⟩))
  have B3 := B1.out.trans (B2.out.mono L1.out)
  go_ret
  exact ⟨w2.heap.size, rfl, Ob.new _ _ _, B3.size, (B3.alloc B3.size _).drew⟩
theorem stepped_10 (b off cap : Nat) (x0 x1 x2 x3 x4 x5 : Int) (now : Int) (w : World) (c0 : w.cell? ⟨b, off, none⟩ = some (.int .i64 x0)) (c1 : w.cell? ⟨b, off + 1, none⟩ = some (.int .i64 x1)) (c2 : w.cell? ⟨b, off + 2, none⟩ = some (.int .i64 x2)) (c3 : w.cell? ⟨b, off + 3, none⟩ = some (.int .i64 x3)) (c4 : w.cell? ⟨b, off + 4, none⟩ = some (.int .i64 x4)) (c5 : w.cell? ⟨b, off + 5, none⟩ = some (.int .i64 x5)) (hg : Glo w) (hv : fitB 3 x3 = true) :
    Calls Tryd.prog 12 #[.int .i64 10, .slice (some ⟨b, off, none⟩) 6 cap, .int .i64 now] w (NewL w (cdT (Cd.mk (x0 == 1) (x1 == 1) (x2 == 1) x3 (x4 == 1) x5)).ls) :=
  stepO_10 _ _ now w (blockOf_10 b off cap x0 x1 x2 x3 x4 x5 w (coderOf_any b off cap x0 x1 x2 x3 x4 x5 w c0 c1 c2 c3 c4 c5)) hg hv
end Go.Proofs.YthifgfhgkdjkfabDoor
namespace Go.Proofs.YthifgfhgkdjkfabDoor
open Go.RowKit
theorem steppedL_1 (v : Value) (c : List Int) (now : Int) (w : World) (hL : ILst w v c) (hlen : c.length = (fldK 1).length) (hf : fitL (fldK 1) c = true) (hn : nowOk now = true) (hg : Glo w) : Calls Tryd.prog 12 #[.int .i64 1, v, .int .i64 now] w (NewL w (stepL 1 c now)) := by
  obtain ⟨x0, x1, x2, x3, x4, x5, rfl⟩ := six_of (c := c) hlen
  obtain ⟨a, b, off, cap, rfl, hA, hI⟩ := hL
  obtain ⟨hb, rfl⟩ := hA (by simp)
  simp [fitL, fldK] at hf
  have e : stepL 1 [x0, x1, x2, x3, x4, x5] now = (tonT now (tmL [x0, x1, x2, x3, x4, x5])).ls := by unfold stepL; simp
  rw [e]
  exact stepped_1 b off cap x0 x1 x2 x3 x4 x5 now w (hI 0 x0 rfl) (hI 1 x1 rfl) (hI 2 x2 rfl) (hI 3 x3 rfl) (hI 4 x4 rfl) (hI 5 x5 rfl) hg (now_fit hn) hf.2.2.2.2.1
theorem steppedL_2 (v : Value) (c : List Int) (now : Int) (w : World) (hL : ILst w v c) (hlen : c.length = (fldK 2).length) (hf : fitL (fldK 2) c = true) (hn : nowOk now = true) (hg : Glo w) : Calls Tryd.prog 12 #[.int .i64 2, v, .int .i64 now] w (NewL w (stepL 2 c now)) := by
  obtain ⟨x0, x1, x2, x3, x4, x5, rfl⟩ := six_of (c := c) hlen
  obtain ⟨a, b, off, cap, rfl, hA, hI⟩ := hL
  obtain ⟨hb, rfl⟩ := hA (by simp)
  simp [fitL, fldK] at hf
  have e : stepL 2 [x0, x1, x2, x3, x4, x5] now = (tofT now (tmL [x0, x1, x2, x3, x4, x5])).ls := by unfold stepL; simp
  rw [e]
  exact stepped_2 b off cap x0 x1 x2 x3 x4 x5 now w (hI 0 x0 rfl) (hI 1 x1 rfl) (hI 2 x2 rfl) (hI 3 x3 rfl) (hI 4 x4 rfl) (hI 5 x5 rfl) hg (now_fit hn) hf.2.2.2.2.1
theorem steppedL_3 (v : Value) (c : List Int) (now : Int) (w : World) (hL : ILst w v c) (hlen : c.length = (fldK 3).length) (hf : fitL (fldK 3) c = true) (hn : nowOk now = true) (hg : Glo w) : Calls Tryd.prog 12 #[.int .i64 3, v, .int .i64 now] w (NewL w (stepL 3 c now)) := by
  obtain ⟨x0, x1, x2, x3, x4, x5, rfl⟩ := six_of (c := c) hlen
  obtain ⟨a, b, off, cap, rfl, hA, hI⟩ := hL
  obtain ⟨hb, rfl⟩ := hA (by simp)
  simp [fitL, fldK] at hf
  have e : stepL 3 [x0, x1, x2, x3, x4, x5] now = (tpT now (tmL [x0, x1, x2, x3, x4, x5])).ls := by unfold stepL; simp
  rw [e]
  exact stepped_3 b off cap x0 x1 x2 x3 x4 x5 now w (hI 0 x0 rfl) (hI 1 x1 rfl) (hI 2 x2 rfl) (hI 3 x3 rfl) (hI 4 x4 rfl) (hI 5 x5 rfl) hg (now_fit hn) hf.2.2.2.2.1
theorem steppedL_4 (v : Value) (c : List Int) (now : Int) (w : World) (hL : ILst w v c) (hlen : c.length = (fldK 4).length) (hf : fitL (fldK 4) c = true) : Calls Tryd.prog 12 #[.int .i64 4, v, .int .i64 now] w (NewL w (stepL 4 c now)) := by
  obtain ⟨x0, x1, x2, x3, x4, x5, rfl⟩ := six_of (c := c) hlen
  obtain ⟨a, b, off, cap, rfl, hA, hI⟩ := hL
  obtain ⟨hb, rfl⟩ := hA (by simp)
  simp [fitL, fldK] at hf
  have e : stepL 4 [x0, x1, x2, x3, x4, x5] now = (ctuT (cnL [x0, x1, x2, x3, x4, x5])).ls := by unfold stepL; simp
  rw [e]
  exact stepped_4 b off cap x0 x1 x2 x3 x4 x5 now w (hI 0 x0 rfl) (hI 1 x1 rfl) (hI 2 x2 rfl) (hI 3 x3 rfl) (hI 4 x4 rfl) (hI 5 x5 rfl) (int_fit hf.2.2.2.2.1)
theorem steppedL_5 (v : Value) (c : List Int) (now : Int) (w : World) (hL : ILst w v c) (hlen : c.length = (fldK 5).length) (hf : fitL (fldK 5) c = true) : Calls Tryd.prog 12 #[.int .i64 5, v, .int .i64 now] w (NewL w (stepL 5 c now)) := by
  obtain ⟨x0, x1, x2, x3, x4, x5, rfl⟩ := six_of (c := c) hlen
  obtain ⟨a, b, off, cap, rfl, hA, hI⟩ := hL
  obtain ⟨hb, rfl⟩ := hA (by simp)
  simp [fitL, fldK] at hf
  have e : stepL 5 [x0, x1, x2, x3, x4, x5] now = (ctdT (cnL [x0, x1, x2, x3, x4, x5])).ls := by unfold stepL; simp
  rw [e]
  exact stepped_5 b off cap x0 x1 x2 x3 x4 x5 now w (hI 0 x0 rfl) (hI 1 x1 rfl) (hI 2 x2 rfl) (hI 3 x3 rfl) (hI 4 x4 rfl) (hI 5 x5 rfl) (int_fit hf.2.2.2.2.1)
theorem steppedL_6 (v : Value) (c : List Int) (now : Int) (w : World) (hL : ILst w v c) (hlen : c.length = (fldK 6).length) (hf : fitL (fldK 6) c = true) : Calls Tryd.prog 12 #[.int .i64 6, v, .int .i64 now] w (NewL w (stepL 6 c now)) := by
  obtain ⟨x0, x1, x2, rfl⟩ := three_of (c := c) hlen
  obtain ⟨a, b, off, cap, rfl, hA, hI⟩ := hL
  obtain ⟨hb, rfl⟩ := hA (by simp)
  simp [fitL, fldK] at hf
  have e : stepL 6 [x0, x1, x2] now = (rT (trL [x0, x1, x2])).ls := by unfold stepL; simp
  rw [e]
  exact stepped_6 b off cap x0 x1 x2 now w (hI 0 x0 rfl) (hI 1 x1 rfl) (hI 2 x2 rfl) 
theorem steppedL_7 (v : Value) (c : List Int) (now : Int) (w : World) (hL : ILst w v c) (hlen : c.length = (fldK 7).length) (hf : fitL (fldK 7) c = true) : Calls Tryd.prog 12 #[.int .i64 7, v, .int .i64 now] w (NewL w (stepL 7 c now)) := by
  obtain ⟨x0, x1, x2, rfl⟩ := three_of (c := c) hlen
  obtain ⟨a, b, off, cap, rfl, hA, hI⟩ := hL
  obtain ⟨hb, rfl⟩ := hA (by simp)
  simp [fitL, fldK] at hf
  have e : stepL 7 [x0, x1, x2] now = (fT (trL [x0, x1, x2])).ls := by unfold stepL; simp
  rw [e]
  exact stepped_7 b off cap x0 x1 x2 now w (hI 0 x0 rfl) (hI 1 x1 rfl) (hI 2 x2 rfl) 
theorem steppedL_8 (v : Value) (c : List Int) (now : Int) (w : World) (hL : ILst w v c) (hlen : c.length = (fldK 8).length) (hf : fitL (fldK 8) c = true) : Calls Tryd.prog 12 #[.int .i64 8, v, .int .i64 now] w (NewL w (stepL 8 c now)) := by
  obtain ⟨x0, x1, x2, rfl⟩ := three_of (c := c) hlen
  obtain ⟨a, b, off, cap, rfl, hA, hI⟩ := hL
  obtain ⟨hb, rfl⟩ := hA (by simp)
  simp [fitL, fldK] at hf
  have e : stepL 8 [x0, x1, x2] now = (srT (trL [x0, x1, x2])).ls := by unfold stepL; simp
  rw [e]
  exact stepped_8 b off cap x0 x1 x2 now w (hI 0 x0 rfl) (hI 1 x1 rfl) (hI 2 x2 rfl) 
theorem steppedL_9 (v : Value) (c : List Int) (now : Int) (w : World) (hL : ILst w v c) (hlen : c.length = (fldK 9).length) (hf : fitL (fldK 9) c = true) : Calls Tryd.prog 12 #[.int .i64 9, v, .int .i64 now] w (NewL w (stepL 9 c now)) := by
  obtain ⟨x0, x1, x2, rfl⟩ := three_of (c := c) hlen
  obtain ⟨a, b, off, cap, rfl, hA, hI⟩ := hL
  obtain ⟨hb, rfl⟩ := hA (by simp)
  simp [fitL, fldK] at hf
  have e : stepL 9 [x0, x1, x2] now = (rsT (trL [x0, x1, x2])).ls := by unfold stepL; simp
  rw [e]
  exact stepped_9 b off cap x0 x1 x2 now w (hI 0 x0 rfl) (hI 1 x1 rfl) (hI 2 x2 rfl) 
theorem steppedL_10 (v : Value) (c : List Int) (now : Int) (w : World) (hL : ILst w v c) (hlen : c.length = (fldK 10).length) (hf : fitL (fldK 10) c = true) (hg : Glo w) : Calls Tryd.prog 12 #[.int .i64 10, v, .int .i64 now] w (NewL w (stepL 10 c now)) := by
  obtain ⟨x0, x1, x2, x3, x4, x5, rfl⟩ := six_of (c := c) hlen
  obtain ⟨a, b, off, cap, rfl, hA, hI⟩ := hL
  obtain ⟨hb, rfl⟩ := hA (by simp)
  simp [fitL, fldK] at hf
  have e : stepL 10 [x0, x1, x2, x3, x4, x5] now = (cdT (cdL [x0, x1, x2, x3, x4, x5])).ls := by unfold stepL; simp
  rw [e]
  exact stepped_10 b off cap x0 x1 x2 x3 x4 x5 now w (hI 0 x0 rfl) (hI 1 x1 rfl) (hI 2 x2 rfl) (hI 3 x3 rfl) (hI 4 x4 rfl) (hI 5 x5 rfl) hg hf.2.2.2.1
theorem stepped_any (k : Int) (v : Value) (c : List Int) (now : Int) (w : World) (hL : ILst w v c) (hg : Glo w) (h : stepE k c now = 0) : Calls Tryd.prog 12 #[.int .i64 k, v, .int .i64 now] w (NewL w (stepL k c now)) := by
  obtain ⟨hk, hl, hf, hn⟩ := stepE_zero.1 h
  obtain rfl | rfl | rfl | rfl | rfl | rfl | rfl | rfl | rfl | rfl : k = 1 ∨ k = 2 ∨ k = 3 ∨ k = 4 ∨ k = 5 ∨ k = 6 ∨ k = 7 ∨ k = 8 ∨ k = 9 ∨ k = 10 := by omega
  · exact steppedL_1 v c now w hL hl hf hn hg
  · exact steppedL_2 v c now w hL hl hf hn hg
  · exact steppedL_3 v c now w hL hl hf hn hg
  · exact steppedL_4 v c now w hL hl hf 
  · exact steppedL_5 v c now w hL hl hf 
  · exact steppedL_6 v c now w hL hl hf 
  · exact steppedL_7 v c now w hL hl hf 
  · exact steppedL_8 v c now w hL hl hf 
  · exact steppedL_9 v c now w hL hl hf 
  · exact steppedL_10 v c now w hL hl hf hg
/-- what Step answers -/
def StepO (w : World) (k : Int) (c : List Int) (now : Int) (e : Ending) (w' : World) : Prop :=
  if stepE k c now = 0 then ∃ g, e = .returned (.tuple #[.slice (some ⟨g, 0, none⟩) (stepL k c now).length (stepL k c now).length, .int .i64 0]) ∧ Ob w' g 2 (intC (stepL k c now)).toArray ∧ w.heap.size ≤ g ∧ Below w.heap.size w w'
  else e = .returned (.tuple #[.slice none 0 0, .int .i64 (stepE k c now)]) ∧ Below w.heap.size w w'
set_option maxRecDepth 100000 in
set_option maxHeartbeats 1600000 in
theorem step12_ok (k : Int) (v : Value) (c : List Int) (now : Int) (w : World) (hL : ILst w v c) (hg : Glo w) (h : stepE k c now = 0) : Calls Tryd.prog 7 #[.int .i64 k, v, .int .i64 now] w fun e w' => ∃ g, e = .returned (.tuple #[.slice (some ⟨g, 0, none⟩) (stepL k c now).length (stepL k c now).length, .int .i64 0]) ∧ Ob w' g 2 (intC (stepL k c now)).toArray ∧ w.heap.size ≤ g ∧ Below w.heap.size w w' := by
  have hk := (stepE_zero.1 h).1
  have m1 := fields_ok k hk w
  have m2 : Hid (∀ W fv, Below w.heap.size w W → FLst W fv (fldK k) → Calls Tryd.prog 9 #[fv, v, .int .i64 now] W fun e w' => e = .returned (.int .i64 0) ∧ Below W.heap.size W w') := fun W fv hb hf => by
    have := mayBe_any fv (fldK k) v c now W hf (hL.on hb) (hg.below hb hg.lt) (fldK_len k)
    rw [may_zero.2 (stepE_zero.1 h).2] at this
    exact this
  have m3 : Hid (∀ W, Below w.heap.size w W → Calls Tryd.prog 12 #[.int .i64 k, v, .int .i64 now] W (NewL W (stepL k c now))) := fun W hb => stepped_any k v c now W (hL.on hb) (hg.below hb hg.lt) h
  clear h hk hg hL
  generalize stepL k c now = L at *
  go_enter Tryd.func7, Tryd.ntmps7
  go_wp2_with (first | (go_at_call 8; refine m1.mono ?_; rintro e w1 ⟨⟨fv, rfl, hf⟩, b1⟩; have HF := hide hf; have B1 := hide b1; clear hf b1) | (go_at_call 9; refine (m2.out _ _ B1.out HF.out).mono ?_; rintro e w2 ⟨rfl, b2⟩; have B2 := hide (B1.out.trans (b2.mono B1.out.size)); clear b2) | (go_at_call 12; refine (m3.out _ B2.out).mono ?_; rintro e w3 ⟨g, rfl, o3, l3, b3⟩; have O3 := hide o3; have L3 := hide (Nat.le_trans B2.out.size l3); have B3 := hide (B2.out.trans (b3.mono B2.out.size)); clear o3 l3 b3))
  go_ret2
  exact ⟨g, rfl, O3.out, L3.out, B3.out⟩
set_option maxRecDepth 100000 in
set_option maxHeartbeats 1600000 in
theorem step12_no (k : Int) (v : Value) (c : List Int) (now : Int) (w : World) (hL : ILst w v c) (hg : Glo w) (h : stepE k c now ≠ 0) : Calls Tryd.prog 7 #[.int .i64 k, v, .int .i64 now] w fun e w' => e = .returned (.tuple #[.slice none 0 0, .int .i64 (stepE k c now)]) ∧ Below w.heap.size w w' := by
  by_cases hk : 1 ≤ k ∧ k ≤ 10
  · have m1 := fields_ok k hk w
    have m2 : Hid (∀ W fv, Below w.heap.size w W → FLst W fv (fldK k) → Calls Tryd.prog 9 #[fv, v, .int .i64 now] W fun e w' => e = .returned (.int .i64 (stepE k c now)) ∧ Below W.heap.size W w') := fun W fv hb hf => by
      have := mayBe_any fv (fldK k) v c now W hf (hL.on hb) (hg.below hb hg.lt) (fldK_len k)
      have e : stepE k c now = mayP (fldK k) c now := by unfold stepE; rw [(kindOk_iff k).2 hk]; rfl
      rw [e]
      exact this
    have hr : stepE k c now = 1 ∨ stepE k c now = 4 := by
      have e : stepE k c now = mayP (fldK k) c now := by unfold stepE; rw [(kindOk_iff k).2 hk]; rfl
      rw [e] at h ⊢
      unfold mayP at h ⊢
      by_cases a : c.length = (fldK k).length
      · rw [if_pos a] at h ⊢
        cases b : fitL (fldK k) c
        · exact Or.inl rfl
        · rw [b] at h
          cases d : nowOk now
          · exact Or.inl rfl
          · rw [d] at h; exact absurd rfl h
      · rw [if_neg a]; exact Or.inr rfl
    clear hk hg hL h
    generalize stepE k c now = E at *
    rcases hr with rfl | rfl
    all_goals
      go_enter Tryd.func7, Tryd.ntmps7
      go_wp2_with (first | (go_at_call 8; refine m1.mono ?_; rintro e w1 ⟨⟨fv, rfl, hf⟩, b1⟩; have HF := hide hf; have B1 := hide b1; clear hf b1) | (go_at_call 9; refine (m2.out _ _ B1.out HF.out).mono ?_; rintro e w2 ⟨rfl, b2⟩; have B2 := hide (B1.out.trans (b2.mono B1.out.size)); clear b2))
      go_ret2
      exact ⟨rfl, B2.out⟩
  · have m1 := fields_no k hk w
    have e : stepE k c now = 92 := by
      unfold stepE
      cases a : kindOk k
      · rfl
      · exact absurd ((kindOk_iff k).1 a) hk
    rw [e]
    clear hk hg hL h e
    go_enter Tryd.func7, Tryd.ntmps7
    go_wp2_with (first | (go_at_call 8; refine m1.mono ?_; rintro e w1 ⟨rfl, rfl⟩))
    go_ret2
    exact ⟨rfl, Below.refl _ _⟩
end Go.Proofs.YthifgfhgkdjkfabDoor
