/- block: an object of a kind, stepped. -/
import Derived.Test.YthifgfhgkdjkfaaDoorBjW
namespace Go.Proofs.YthifgfhgkdjkfaaDoor
open Go.RowKit
set_option maxRecDepth 100000 in
theorem ms_8 (g : Nat) (w : World) : (method 277 121 (.pointer (some ⟨g, 0, none⟩)) "capstan/block.step").run Tryd.prog w = .ok (108, .pointer (some ⟨g, 0, none⟩)) w := by rfl
set_option maxRecDepth 100000 in
theorem mc_8 (g : Nat) (w : World) : (method 277 121 (.pointer (some ⟨g, 0, none⟩)) "capstan/block.cells").run Tryd.prog w = .ok (107, .pointer (some ⟨g, 0, none⟩)) w := by rfl
set_option maxRecDepth 100000 in
set_option maxHeartbeats 1600000 in
theorem blockOf_8 (b off cap : Nat) (x0 x1 x2 : Int) (w : World) (mO : Calls Tryd.prog 49 #[.slice (some ⟨b, off, none⟩) 3 cap] w fun e w' => e = .returned (.agg #[.bool (x0 == 1), .bool (x1 == 1), .bool (x2 == 1)]) ∧ Below w.heap.size w w') :
    Calls Tryd.prog 37 #[.int .i64 8, .slice (some ⟨b, off, none⟩) 3 cap] w fun e w' => ∃ g, e = .returned (.iface 121 (.pointer (some ⟨g, 0, none⟩))) ∧ Ob w' g 126 (Tr.mk (x0 == 1) (x1 == 1) (x2 == 1)).ob ∧ w.heap.size ≤ g ∧ Below w.heap.size w w' := by
  go_enter Tryd.func37, Tryd.ntmps37
  go_wp2_with (first | (go_at_call 49; refine mO.mono ?_; rintro e w1 ⟨rfl, b1⟩; have B1 := hide b1; clear b1))
  go_ret
  exact ⟨w1.heap.size, rfl, Ob.new _ _ _, B1.out.size, B1.out.alloc B1.out.size _⟩
set_option maxRecDepth 100000 in
set_option maxHeartbeats 1600000 in
theorem stepO_8 (v : Value) (t : Tr) (now : Int) (w : World) (mO : Calls Tryd.prog 37 #[.int .i64 8, v] w fun e w' => ∃ g, e = .returned (.iface 121 (.pointer (some ⟨g, 0, none⟩))) ∧ Ob w' g 126 t.ob ∧ w.heap.size ≤ g ∧ Below w.heap.size w w') :
    Calls Tryd.prog 22 #[.int .i64 8, v, .int .i64 now] w (NewL w (srT t).ls) := by
  have q1 := ms_8
  have q2 := mc_8
  go_enter Tryd.func22, Tryd.ntmps22
  go_wp2_with (first | (go_at_call 37; refine mO.mono ?_; rintro e w1 ⟨g, rfl, o1, l1, b1⟩; have B1 := hide b1; have O1 := hide o1; have L1 := hide l1; clear b1 o1 l1) | (go_at_call 108; refine (sr_step g 126 now t w1 O1.out).mono ?_; rintro e w2 ⟨rfl, o2, b2⟩; have B2 := hide b2; have O2 := hide o2; clear b2 o2) | (go_at_call 107; refine (cells107 g _ _ _ 126 w2 O2.out).mono ?_; rintro e w3 ⟨rfl, rfl⟩))
  have B3 := B1.out.trans (B2.out.mono L1.out)
  go_ret
  exact ⟨w2.heap.size, rfl, Ob.new _ _ _, B3.size, (B3.alloc B3.size _).drew⟩
theorem stepped_8 (b off cap : Nat) (x0 x1 x2 : Int) (now : Int) (w : World) (c0 : w.cell? ⟨b, off, none⟩ = some (.int .i64 x0)) (c1 : w.cell? ⟨b, off + 1, none⟩ = some (.int .i64 x1)) (c2 : w.cell? ⟨b, off + 2, none⟩ = some (.int .i64 x2)) :
    Calls Tryd.prog 22 #[.int .i64 8, .slice (some ⟨b, off, none⟩) 3 cap, .int .i64 now] w (NewL w (srT (Tr.mk (x0 == 1) (x1 == 1) (x2 == 1))).ls) :=
  stepO_8 _ _ now w (blockOf_8 b off cap x0 x1 x2 w (latchOf_any b off cap x0 x1 x2 w c0 c1 c2)) 
set_option maxRecDepth 100000 in
theorem ms_9 (g : Nat) (w : World) : (method 277 127 (.pointer (some ⟨g, 0, none⟩)) "capstan/block.step").run Tryd.prog w = .ok (109, .pointer (some ⟨g, 0, none⟩)) w := by rfl
set_option maxRecDepth 100000 in
theorem mc_9 (g : Nat) (w : World) : (method 277 127 (.pointer (some ⟨g, 0, none⟩)) "capstan/block.cells").run Tryd.prog w = .ok (107, .pointer (some ⟨g, 0, none⟩)) w := by rfl
set_option maxRecDepth 100000 in
set_option maxHeartbeats 1600000 in
theorem blockOf_9 (b off cap : Nat) (x0 x1 x2 : Int) (w : World) (mO : Calls Tryd.prog 49 #[.slice (some ⟨b, off, none⟩) 3 cap] w fun e w' => e = .returned (.agg #[.bool (x0 == 1), .bool (x1 == 1), .bool (x2 == 1)]) ∧ Below w.heap.size w w') :
    Calls Tryd.prog 37 #[.int .i64 9, .slice (some ⟨b, off, none⟩) 3 cap] w fun e w' => ∃ g, e = .returned (.iface 127 (.pointer (some ⟨g, 0, none⟩))) ∧ Ob w' g 128 (Tr.mk (x0 == 1) (x1 == 1) (x2 == 1)).ob ∧ w.heap.size ≤ g ∧ Below w.heap.size w w' := by
  go_enter Tryd.func37, Tryd.ntmps37
  go_wp2_with (first | (go_at_call 49; refine mO.mono ?_; rintro e w1 ⟨rfl, b1⟩; have B1 := hide b1; clear b1))
  go_ret
  exact ⟨w1.heap.size, rfl, Ob.new _ _ _, B1.out.size, B1.out.alloc B1.out.size _⟩
set_option maxRecDepth 100000 in
set_option maxHeartbeats 1600000 in
theorem stepO_9 (v : Value) (t : Tr) (now : Int) (w : World) (mO : Calls Tryd.prog 37 #[.int .i64 9, v] w fun e w' => ∃ g, e = .returned (.iface 127 (.pointer (some ⟨g, 0, none⟩))) ∧ Ob w' g 128 t.ob ∧ w.heap.size ≤ g ∧ Below w.heap.size w w') :
    Calls Tryd.prog 22 #[.int .i64 9, v, .int .i64 now] w (NewL w (rsT t).ls) := by
  have q1 := ms_9
  have q2 := mc_9
  go_enter Tryd.func22, Tryd.ntmps22
  go_wp2_with (first | (go_at_call 37; refine mO.mono ?_; rintro e w1 ⟨g, rfl, o1, l1, b1⟩; have B1 := hide b1; have O1 := hide o1; have L1 := hide l1; clear b1 o1 l1) | (go_at_call 109; refine (rs_step g 128 now t w1 O1.out).mono ?_; rintro e w2 ⟨rfl, o2, b2⟩; have B2 := hide b2; have O2 := hide o2; clear b2 o2) | (go_at_call 107; refine (cells107 g _ _ _ 128 w2 O2.out).mono ?_; rintro e w3 ⟨rfl, rfl⟩))
  have B3 := B1.out.trans (B2.out.mono L1.out)
  go_ret
  exact ⟨w2.heap.size, rfl, Ob.new _ _ _, B3.size, (B3.alloc B3.size _).drew⟩
theorem stepped_9 (b off cap : Nat) (x0 x1 x2 : Int) (now : Int) (w : World) (c0 : w.cell? ⟨b, off, none⟩ = some (.int .i64 x0)) (c1 : w.cell? ⟨b, off + 1, none⟩ = some (.int .i64 x1)) (c2 : w.cell? ⟨b, off + 2, none⟩ = some (.int .i64 x2)) :
    Calls Tryd.prog 22 #[.int .i64 9, .slice (some ⟨b, off, none⟩) 3 cap, .int .i64 now] w (NewL w (rsT (Tr.mk (x0 == 1) (x1 == 1) (x2 == 1))).ls) :=
  stepO_9 _ _ now w (blockOf_9 b off cap x0 x1 x2 w (latchOf_any b off cap x0 x1 x2 w c0 c1 c2)) 
set_option maxRecDepth 100000 in
theorem ms_10 (g : Nat) (w : World) : (method 277 129 (.pointer (some ⟨g, 0, none⟩)) "capstan/block.step").run Tryd.prog w = .ok (112, .pointer (some ⟨g, 0, none⟩)) w := by rfl
set_option maxRecDepth 100000 in
theorem mc_10 (g : Nat) (w : World) : (method 277 129 (.pointer (some ⟨g, 0, none⟩)) "capstan/block.cells").run Tryd.prog w = .ok (110, .pointer (some ⟨g, 0, none⟩)) w := by rfl
set_option maxRecDepth 100000 in
set_option maxHeartbeats 1600000 in
theorem blockOf_10 (b off cap : Nat) (x0 x1 x2 x3 x4 x5 : Int) (w : World) (mO : Calls Tryd.prog 50 #[.slice (some ⟨b, off, none⟩) 6 cap] w fun e w' => e = .returned (.agg #[.bool (x0 == 1), .bool (x1 == 1), .bool (x2 == 1), .int .i64 x3, .bool (x4 == 1), .int .i64 x5]) ∧ Below w.heap.size w w') :
    Calls Tryd.prog 37 #[.int .i64 10, .slice (some ⟨b, off, none⟩) 6 cap] w fun e w' => ∃ g, e = .returned (.iface 129 (.pointer (some ⟨g, 0, none⟩))) ∧ Ob w' g 134 (Cd.mk (x0 == 1) (x1 == 1) (x2 == 1) x3 (x4 == 1) x5).ob ∧ w.heap.size ≤ g ∧ Below w.heap.size w w' := by
  go_enter Tryd.func37, Tryd.ntmps37
  go_wp2_with (first | (go_at_call 50; refine mO.mono ?_; rintro e w1 ⟨rfl, b1⟩; have B1 := hide b1; clear b1))
  go_ret
  exact ⟨w1.heap.size, rfl, Ob.new _ _ _, B1.out.size, B1.out.alloc B1.out.size _⟩
set_option maxRecDepth 100000 in
set_option maxHeartbeats 1600000 in
theorem stepO_10 (v : Value) (t : Cd) (now : Int) (w : World) (mO : Calls Tryd.prog 37 #[.int .i64 10, v] w fun e w' => ∃ g, e = .returned (.iface 129 (.pointer (some ⟨g, 0, none⟩))) ∧ Ob w' g 134 t.ob ∧ w.heap.size ≤ g ∧ Below w.heap.size w w') (hg : Glo w) (hv : fitB 3 t.v = true) :
    Calls Tryd.prog 22 #[.int .i64 10, v, .int .i64 now] w (NewL w (cdT t).ls) := by
  have q1 := ms_10
  have q2 := mc_10
  have HG := hide hg
  have HV := hide hv
  clear hg hv
  go_enter Tryd.func22, Tryd.ntmps22
  go_wp2_with (first | (go_at_call 37; refine mO.mono ?_; rintro e w1 ⟨g, rfl, o1, l1, b1⟩; have B1 := hide b1; have O1 := hide o1; have L1 := hide l1; clear b1 o1 l1) | (go_at_call 112; refine (quad_step g 134 now t w1 (HG.out.below B1.out HG.out.lt) (Nat.lt_of_lt_of_le HG.out.lt L1.out) HV.out O1.out).mono ?_; rintro e w2 ⟨rfl, o2, b2⟩; have B2 := hide b2; have O2 := hide o2; clear b2 o2) | (go_at_call 110; refine (cells110 g _ _ _ _ _ _ 134 w2 O2.out).mono ?_; rintro e w3 ⟨rfl, rfl⟩))
  have B3 := B1.out.trans (B2.out.mono L1.out)
  go_ret
  exact ⟨w2.heap.size, rfl, Ob.new _ _ _, B3.size, (B3.alloc B3.size _).drew⟩
theorem stepped_10 (b off cap : Nat) (x0 x1 x2 x3 x4 x5 : Int) (now : Int) (w : World) (c0 : w.cell? ⟨b, off, none⟩ = some (.int .i64 x0)) (c1 : w.cell? ⟨b, off + 1, none⟩ = some (.int .i64 x1)) (c2 : w.cell? ⟨b, off + 2, none⟩ = some (.int .i64 x2)) (c3 : w.cell? ⟨b, off + 3, none⟩ = some (.int .i64 x3)) (c4 : w.cell? ⟨b, off + 4, none⟩ = some (.int .i64 x4)) (c5 : w.cell? ⟨b, off + 5, none⟩ = some (.int .i64 x5)) (hg : Glo w) (hv : fitB 3 x3 = true) :
    Calls Tryd.prog 22 #[.int .i64 10, .slice (some ⟨b, off, none⟩) 6 cap, .int .i64 now] w (NewL w (cdT (Cd.mk (x0 == 1) (x1 == 1) (x2 == 1) x3 (x4 == 1) x5)).ls) :=
  stepO_10 _ _ now w (blockOf_10 b off cap x0 x1 x2 x3 x4 x5 w (coderOf_any b off cap x0 x1 x2 x3 x4 x5 w c0 c1 c2 c3 c4 c5)) hg hv
end Go.Proofs.YthifgfhgkdjkfaaDoor
