/- block: an object of a kind, stepped. | block: an object of a kind, stepped. -/
import Derived.Test.YthifgfhgkdjkfabDoorMg11
namespace Go.Proofs.YthifgfhgkdjkfabDoor
open Go.RowKit
set_option maxRecDepth 100000 in
theorem ms_2 (g : Nat) (w : World) : (method 248 60 (.pointer (some ⟨g, 0, none⟩)) "capstan/block.step").run Tryd.prog w = .ok (63, .pointer (some ⟨g, 0, none⟩)) w := by rfl
set_option maxRecDepth 100000 in
theorem mc_2 (g : Nat) (w : World) : (method 248 60 (.pointer (some ⟨g, 0, none⟩)) "capstan/block.cells").run Tryd.prog w = .ok (37, .pointer (some ⟨g, 0, none⟩)) w := by rfl
set_option maxRecDepth 100000 in
set_option maxHeartbeats 1600000 in
theorem blockOf_2 (b off cap : Nat) (x0 x1 x2 x3 x4 x5 : Int) (w : World) (mO : Calls Tryd.prog 16 #[.slice (some ⟨b, off, none⟩) 6 cap] w fun e w' => e = .returned (.agg #[.bool (x0 == 1), .int .i64 x1, .bool (x2 == 1), .int .i64 x3, .int .i64 x4, .bool (x5 == 1)]) ∧ Below w.heap.size w w') :
    Calls Tryd.prog 14 #[.int .i64 2, .slice (some ⟨b, off, none⟩) 6 cap] w fun e w' => ∃ g, e = .returned (.iface 60 (.pointer (some ⟨g, 0, none⟩))) ∧ Ob w' g 61 (Tm.mk (x0 == 1) x1 (x2 == 1) x3 x4 (x5 == 1)).ob ∧ w.heap.size ≤ g ∧ Below w.heap.size w w' := by
  go_enter Tryd.func14, Tryd.ntmps14
  go_wp2_with (first | (go_at_call 16; refine mO.mono ?_; rintro e w1 ⟨rfl, b1⟩; have B1 := hide b1; clear b1))
  go_ret
  exact ⟨w1.heap.size, rfl, Ob.new _ _ _, B1.out.size, B1.out.alloc B1.out.size _⟩
set_option maxRecDepth 100000 in
set_option maxHeartbeats 1600000 in
theorem stepO_2 (v : Value) (t : Tm) (now : Int) (w : World) (mO : Calls Tryd.prog 14 #[.int .i64 2, v] w fun e w' => ∃ g, e = .returned (.iface 60 (.pointer (some ⟨g, 0, none⟩))) ∧ Ob w' g 61 t.ob ∧ w.heap.size ≤ g ∧ Below w.heap.size w w') (hg : Glo w) (hn : fitB 4 now = true) (hs : fitB 4 t.s = true) :
    Calls Tryd.prog 12 #[.int .i64 2, v, .int .i64 now] w (NewL w (tofT now t).ls) := by
  have q1 := ms_2
  have q2 := mc_2
  have HG := hide hg
  have HN := hide hn
  have HS := hide hs
  clear hg hn hs
  go_enter Tryd.func12, Tryd.ntmps12
  go_wp2_with (first | (go_at_call 14; refine mO.mono ?_; rintro e w1 ⟨g, rfl, o1, l1, b1⟩; have B1 := hide b1; have O1 := hide o1; have L1 := hide l1; clear b1 o1 l1) | (go_at_call 63; refine (tof_step g 61 now t w1 (HG.out.below B1.out HG.out.lt) (Nat.lt_of_lt_of_le HG.out.lt L1.out) HN.out HS.out O1.out).mono ?_; rintro e w2 ⟨rfl, o2, b2⟩; have B2 := hide b2; have O2 := hide o2; clear b2 o2) | (go_at_call 37; refine (cells72 g _ _ _ _ _ _ 61 w2 O2.out).mono ?_; rintro e w3 ⟨rfl, rfl⟩))
  have B3 := B1.out.trans (B2.out.mono L1.out)
  go_ret
  exact ⟨w2.heap.size, rfl, Ob.new _ _ _, B3.size, (B3.alloc B3.size _).drew⟩
theorem stepped_2 (b off cap : Nat) (x0 x1 x2 x3 x4 x5 : Int) (now : Int) (w : World) (c0 : w.cell? ⟨b, off, none⟩ = some (.int .i64 x0)) (c1 : w.cell? ⟨b, off + 1, none⟩ = some (.int .i64 x1)) (c2 : w.cell? ⟨b, off + 2, none⟩ = some (.int .i64 x2)) (c3 : w.cell? ⟨b, off + 3, none⟩ = some (.int .i64 x3)) (c4 : w.cell? ⟨b, off + 4, none⟩ = some (.int .i64 x4)) (c5 : w.cell? ⟨b, off + 5, none⟩ = some (.int .i64 x5)) (hg : Glo w) (hn : fitB 4 now = true) (hs : fitB 4 x4 = true) :
    Calls Tryd.prog 12 #[.int .i64 2, .slice (some ⟨b, off, none⟩) 6 cap, .int .i64 now] w (NewL w (tofT now (Tm.mk (x0 == 1) x1 (x2 == 1) x3 x4 (x5 == 1))).ls) :=
  stepO_2 _ _ now w (blockOf_2 b off cap x0 x1 x2 x3 x4 x5 w (timerOf_any b off cap x0 x1 x2 x3 x4 x5 w c0 c1 c2 c3 c4 c5)) hg hn hs
set_option maxRecDepth 100000 in
theorem ms_3 (g : Nat) (w : World) : (method 248 62 (.pointer (some ⟨g, 0, none⟩)) "capstan/block.step").run Tryd.prog w = .ok (64, .pointer (some ⟨g, 0, none⟩)) w := by rfl
set_option maxRecDepth 100000 in
theorem mc_3 (g : Nat) (w : World) : (method 248 62 (.pointer (some ⟨g, 0, none⟩)) "capstan/block.cells").run Tryd.prog w = .ok (37, .pointer (some ⟨g, 0, none⟩)) w := by rfl
set_option maxRecDepth 100000 in
set_option maxHeartbeats 1600000 in
theorem blockOf_3 (b off cap : Nat) (x0 x1 x2 x3 x4 x5 : Int) (w : World) (mO : Calls Tryd.prog 16 #[.slice (some ⟨b, off, none⟩) 6 cap] w fun e w' => e = .returned (.agg #[.bool (x0 == 1), .int .i64 x1, .bool (x2 == 1), .int .i64 x3, .int .i64 x4, .bool (x5 == 1)]) ∧ Below w.heap.size w w') :
    Calls Tryd.prog 14 #[.int .i64 3, .slice (some ⟨b, off, none⟩) 6 cap] w fun e w' => ∃ g, e = .returned (.iface 62 (.pointer (some ⟨g, 0, none⟩))) ∧ Ob w' g 63 (Tm.mk (x0 == 1) x1 (x2 == 1) x3 x4 (x5 == 1)).ob ∧ w.heap.size ≤ g ∧ Below w.heap.size w w' := by
  go_enter Tryd.func14, Tryd.ntmps14
  go_wp2_with (first | (go_at_call 16; refine mO.mono ?_; rintro e w1 ⟨rfl, b1⟩; have B1 := hide b1; clear b1))
  go_ret
  exact ⟨w1.heap.size, rfl, Ob.new _ _ _, B1.out.size, B1.out.alloc B1.out.size _⟩
set_option maxRecDepth 100000 in
set_option maxHeartbeats 1600000 in
theorem stepO_3 (v : Value) (t : Tm) (now : Int) (w : World) (mO : Calls Tryd.prog 14 #[.int .i64 3, v] w fun e w' => ∃ g, e = .returned (.iface 62 (.pointer (some ⟨g, 0, none⟩))) ∧ Ob w' g 63 t.ob ∧ w.heap.size ≤ g ∧ Below w.heap.size w w') (hg : Glo w) (hn : fitB 4 now = true) (hs : fitB 4 t.s = true) :
    Calls Tryd.prog 12 #[.int .i64 3, v, .int .i64 now] w (NewL w (tpT now t).ls) := by
  have q1 := ms_3
  have q2 := mc_3
  have HG := hide hg
  have HN := hide hn
  have HS := hide hs
  clear hg hn hs
  go_enter Tryd.func12, Tryd.ntmps12
  go_wp2_with (first | (go_at_call 14; refine mO.mono ?_; rintro e w1 ⟨g, rfl, o1, l1, b1⟩; have B1 := hide b1; have O1 := hide o1; have L1 := hide l1; clear b1 o1 l1) | (go_at_call 64; refine (tp_step g 63 now t w1 (HG.out.below B1.out HG.out.lt) (Nat.lt_of_lt_of_le HG.out.lt L1.out) HN.out HS.out O1.out).mono ?_; rintro e w2 ⟨rfl, o2, b2⟩; have B2 := hide b2; have O2 := hide o2; clear b2 o2) | (go_at_call 37; refine (cells72 g _ _ _ _ _ _ 63 w2 O2.out).mono ?_; rintro e w3 ⟨rfl, rfl⟩))
  have B3 := B1.out.trans (B2.out.mono L1.out)
  go_ret
  exact ⟨w2.heap.size, rfl, Ob.new _ _ _, B3.size, (B3.alloc B3.size _).drew⟩
theorem stepped_3 (b off cap : Nat) (x0 x1 x2 x3 x4 x5 : Int) (now : Int) (w : World) (c0 : w.cell? ⟨b, off, none⟩ = some (.int .i64 x0)) (c1 : w.cell? ⟨b, off + 1, none⟩ = some (.int .i64 x1)) (c2 : w.cell? ⟨b, off + 2, none⟩ = some (.int .i64 x2)) (c3 : w.cell? ⟨b, off + 3, none⟩ = some (.int .i64 x3)) (c4 : w.cell? ⟨b, off + 4, none⟩ = some (.int .i64 x4)) (c5 : w.cell? ⟨b, off + 5, none⟩ = some (.int .i64 x5)) (hg : Glo w) (hn : fitB 4 now = true) (hs : fitB 4 x4 = true) :
    Calls Tryd.prog 12 #[.int .i64 3, .slice (some ⟨b, off, none⟩) 6 cap, .int .i64 now] w (NewL w (tpT now (Tm.mk (x0 == 1) x1 (x2 == 1) x3 x4 (x5 == 1))).ls) :=
  stepO_3 _ _ now w (blockOf_3 b off cap x0 x1 x2 x3 x4 x5 w (timerOf_any b off cap x0 x1 x2 x3 x4 x5 w c0 c1 c2 c3 c4 c5)) hg hn hs
set_option maxRecDepth 100000 in
theorem ms_4 (g : Nat) (w : World) : (method 248 64 (.pointer (some ⟨g, 0, none⟩)) "capstan/block.step").run Tryd.prog w = .ok (67, .pointer (some ⟨g, 0, none⟩)) w := by rfl
set_option maxRecDepth 100000 in
theorem mc_4 (g : Nat) (w : World) : (method 248 64 (.pointer (some ⟨g, 0, none⟩)) "capstan/block.cells").run Tryd.prog w = .ok (65, .pointer (some ⟨g, 0, none⟩)) w := by rfl
set_option maxRecDepth 100000 in
set_option maxHeartbeats 1600000 in
theorem blockOf_4 (b off cap : Nat) (x0 x1 x2 x3 x4 x5 : Int) (w : World) (mO : Calls Tryd.prog 17 #[.slice (some ⟨b, off, none⟩) 6 cap] w fun e w' => e = .returned (.agg #[.bool (x0 == 1), .bool (x1 == 1), .int .i64 x2, .bool (x3 == 1), .int .i64 x4, .bool (x5 == 1)]) ∧ Below w.heap.size w w') :
    Calls Tryd.prog 14 #[.int .i64 4, .slice (some ⟨b, off, none⟩) 6 cap] w fun e w' => ∃ g, e = .returned (.iface 64 (.pointer (some ⟨g, 0, none⟩))) ∧ Ob w' g 69 (Cn.mk (x0 == 1) (x1 == 1) x2 (x3 == 1) x4 (x5 == 1)).ob ∧ w.heap.size ≤ g ∧ Below w.heap.size w w' := by
  go_enter Tryd.func14, Tryd.ntmps14
  go_wp2_with (first | (go_at_call 17; refine mO.mono ?_; rintro e w1 ⟨rfl, b1⟩; have B1 := hide b1; clear b1))
  go_ret
  exact ⟨w1.heap.size, rfl, Ob.new _ _ _, B1.out.size, B1.out.alloc B1.out.size _⟩
set_option maxRecDepth 100000 in
set_option maxHeartbeats 1600000 in
theorem stepO_4 (v : Value) (t : Cn) (now : Int) (w : World) (mO : Calls Tryd.prog 14 #[.int .i64 4, v] w fun e w' => ∃ g, e = .returned (.iface 64 (.pointer (some ⟨g, 0, none⟩))) ∧ Ob w' g 69 t.ob ∧ w.heap.size ≤ g ∧ Below w.heap.size w w') (hv : -32768 ≤ t.v ∧ t.v ≤ 32767) :
    Calls Tryd.prog 12 #[.int .i64 4, v, .int .i64 now] w (NewL w (ctuT t).ls) := by
  have q1 := ms_4
  have q2 := mc_4
  have HV := hide hv
  clear hv
  go_enter Tryd.func12, Tryd.ntmps12
  go_wp2_with (first | (go_at_call 14; refine mO.mono ?_; rintro e w1 ⟨g, rfl, o1, l1, b1⟩; have B1 := hide b1; have O1 := hide o1; have L1 := hide l1; clear b1 o1 l1) | (go_at_call 67; refine (ctu_step g 69 now t w1 HV.out O1.out).mono ?_; rintro e w2 ⟨rfl, o2, b2⟩; have B2 := hide b2; have O2 := hide o2; clear b2 o2) | (go_at_call 65; refine (cells100 g _ _ _ _ _ _ 69 w2 O2.out).mono ?_; rintro e w3 ⟨rfl, rfl⟩))
  have B3 := B1.out.trans (B2.out.mono L1.out)
  go_ret
  exact ⟨w2.heap.size, rfl, Ob.new _ _ _, B3.size, (B3.alloc B3.size _).drew⟩
theorem stepped_4 (b off cap : Nat) (x0 x1 x2 x3 x4 x5 : Int) (now : Int) (w : World) (c0 : w.cell? ⟨b, off, none⟩ = some (.int .i64 x0)) (c1 : w.cell? ⟨b, off + 1, none⟩ = some (.int .i64 x1)) (c2 : w.cell? ⟨b, off + 2, none⟩ = some (.int .i64 x2)) (c3 : w.cell? ⟨b, off + 3, none⟩ = some (.int .i64 x3)) (c4 : w.cell? ⟨b, off + 4, none⟩ = some (.int .i64 x4)) (c5 : w.cell? ⟨b, off + 5, none⟩ = some (.int .i64 x5)) (hv : -32768 ≤ x4 ∧ x4 ≤ 32767) :
    Calls Tryd.prog 12 #[.int .i64 4, .slice (some ⟨b, off, none⟩) 6 cap, .int .i64 now] w (NewL w (ctuT (Cn.mk (x0 == 1) (x1 == 1) x2 (x3 == 1) x4 (x5 == 1))).ls) :=
  stepO_4 _ _ now w (blockOf_4 b off cap x0 x1 x2 x3 x4 x5 w (counterOf_any b off cap x0 x1 x2 x3 x4 x5 w c0 c1 c2 c3 c4 c5)) hv
end Go.Proofs.YthifgfhgkdjkfabDoor
namespace Go.Proofs.YthifgfhgkdjkfabDoor
open Go.RowKit
set_option maxRecDepth 100000 in
theorem ms_5 (g : Nat) (w : World) : (method 248 70 (.pointer (some ⟨g, 0, none⟩)) "capstan/block.step").run Tryd.prog w = .ok (68, .pointer (some ⟨g, 0, none⟩)) w := by rfl
set_option maxRecDepth 100000 in
theorem mc_5 (g : Nat) (w : World) : (method 248 70 (.pointer (some ⟨g, 0, none⟩)) "capstan/block.cells").run Tryd.prog w = .ok (65, .pointer (some ⟨g, 0, none⟩)) w := by rfl
set_option maxRecDepth 100000 in
set_option maxHeartbeats 1600000 in
theorem blockOf_5 (b off cap : Nat) (x0 x1 x2 x3 x4 x5 : Int) (w : World) (mO : Calls Tryd.prog 17 #[.slice (some ⟨b, off, none⟩) 6 cap] w fun e w' => e = .returned (.agg #[.bool (x0 == 1), .bool (x1 == 1), .int .i64 x2, .bool (x3 == 1), .int .i64 x4, .bool (x5 == 1)]) ∧ Below w.heap.size w w') :
    Calls Tryd.prog 14 #[.int .i64 5, .slice (some ⟨b, off, none⟩) 6 cap] w fun e w' => ∃ g, e = .returned (.iface 70 (.pointer (some ⟨g, 0, none⟩))) ∧ Ob w' g 71 (Cn.mk (x0 == 1) (x1 == 1) x2 (x3 == 1) x4 (x5 == 1)).ob ∧ w.heap.size ≤ g ∧ Below w.heap.size w w' := by
  go_enter Tryd.func14, Tryd.ntmps14
  go_wp2_with (first | (go_at_call 17; refine mO.mono ?_; rintro e w1 ⟨rfl, b1⟩; have B1 := hide b1; clear b1))
  go_ret
  exact ⟨w1.heap.size, rfl, Ob.new _ _ _, B1.out.size, B1.out.alloc B1.out.size _⟩
set_option maxRecDepth 100000 in
set_option maxHeartbeats 1600000 in
theorem stepO_5 (v : Value) (t : Cn) (now : Int) (w : World) (mO : Calls Tryd.prog 14 #[.int .i64 5, v] w fun e w' => ∃ g, e = .returned (.iface 70 (.pointer (some ⟨g, 0, none⟩))) ∧ Ob w' g 71 t.ob ∧ w.heap.size ≤ g ∧ Below w.heap.size w w') (hv : -32768 ≤ t.v ∧ t.v ≤ 32767) :
    Calls Tryd.prog 12 #[.int .i64 5, v, .int .i64 now] w (NewL w (ctdT t).ls) := by
  have q1 := ms_5
  have q2 := mc_5
  have HV := hide hv
  clear hv
  go_enter Tryd.func12, Tryd.ntmps12
  go_wp2_with (first | (go_at_call 14; refine mO.mono ?_; rintro e w1 ⟨g, rfl, o1, l1, b1⟩; have B1 := hide b1; have O1 := hide o1; have L1 := hide l1; clear b1 o1 l1) | (go_at_call 68; refine (ctd_step g 71 now t w1 HV.out O1.out).mono ?_; rintro e w2 ⟨rfl, o2, b2⟩; have B2 := hide b2; have O2 := hide o2; clear b2 o2) | (go_at_call 65; refine (cells100 g _ _ _ _ _ _ 71 w2 O2.out).mono ?_; rintro e w3 ⟨rfl, rfl⟩))
  have B3 := B1.out.trans (B2.out.mono L1.out)
  go_ret
  exact ⟨w2.heap.size, rfl, Ob.new _ _ _, B3.size, (B3.alloc B3.size _).drew⟩
theorem stepped_5 (b off cap : Nat) (x0 x1 x2 x3 x4 x5 : Int) (now : Int) (w : World) (c0 : w.cell? ⟨b, off, none⟩ = some (.int .i64 x0)) (c1 : w.cell? ⟨b, off + 1, none⟩ = some (.int .i64 x1)) (c2 : w.cell? ⟨b, off + 2, none⟩ = some (.int .i64 x2)) (c3 : w.cell? ⟨b, off + 3, none⟩ = some (.int .i64 x3)) (c4 : w.cell? ⟨b, off + 4, none⟩ = some (.int .i64 x4)) (c5 : w.cell? ⟨b, off + 5, none⟩ = some (.int .i64 x5)) (hv : -32768 ≤ x4 ∧ x4 ≤ 32767) :
    Calls Tryd.prog 12 #[.int .i64 5, .slice (some ⟨b, off, none⟩) 6 cap, .int .i64 now] w (NewL w (ctdT (Cn.mk (x0 == 1) (x1 == 1) x2 (x3 == 1) x4 (x5 == 1))).ls) :=
  stepO_5 _ _ now w (blockOf_5 b off cap x0 x1 x2 x3 x4 x5 w (counterOf_any b off cap x0 x1 x2 x3 x4 x5 w c0 c1 c2 c3 c4 c5)) hv
set_option maxRecDepth 100000 in
theorem ms_6 (g : Nat) (w : World) : (method 248 72 (.pointer (some ⟨g, 0, none⟩)) "capstan/block.step").run Tryd.prog w = .ok (70, .pointer (some ⟨g, 0, none⟩)) w := by rfl
set_option maxRecDepth 100000 in
theorem mc_6 (g : Nat) (w : World) : (method 248 72 (.pointer (some ⟨g, 0, none⟩)) "capstan/block.cells").run Tryd.prog w = .ok (69, .pointer (some ⟨g, 0, none⟩)) w := by rfl
set_option maxRecDepth 100000 in
set_option maxHeartbeats 1600000 in
theorem blockOf_6 (b off cap : Nat) (x0 x1 x2 : Int) (w : World) (mO : Calls Tryd.prog 18 #[.slice (some ⟨b, off, none⟩) 3 cap] w fun e w' => e = .returned (.agg #[.bool (x0 == 1), .bool (x1 == 1), .bool (x2 == 1)]) ∧ Below w.heap.size w w') :
    Calls Tryd.prog 14 #[.int .i64 6, .slice (some ⟨b, off, none⟩) 3 cap] w fun e w' => ∃ g, e = .returned (.iface 72 (.pointer (some ⟨g, 0, none⟩))) ∧ Ob w' g 77 (Tr.mk (x0 == 1) (x1 == 1) (x2 == 1)).ob ∧ w.heap.size ≤ g ∧ Below w.heap.size w w' := by
  go_enter Tryd.func14, Tryd.ntmps14
  go_wp2_with (first | (go_at_call 18; refine mO.mono ?_; rintro e w1 ⟨rfl, b1⟩; have B1 := hide b1; clear b1))
  go_ret
  exact ⟨w1.heap.size, rfl, Ob.new _ _ _, B1.out.size, B1.out.alloc B1.out.size _⟩
set_option maxRecDepth 100000 in
set_option maxHeartbeats 1600000 in
theorem stepO_6 (v : Value) (t : Tr) (now : Int) (w : World) (mO : Calls Tryd.prog 14 #[.int .i64 6, v] w fun e w' => ∃ g, e = .returned (.iface 72 (.pointer (some ⟨g, 0, none⟩))) ∧ Ob w' g 77 t.ob ∧ w.heap.size ≤ g ∧ Below w.heap.size w w') :
    Calls Tryd.prog 12 #[.int .i64 6, v, .int .i64 now] w (NewL w (rT t).ls) := by
  have q1 := ms_6
  have q2 := mc_6
  go_enter Tryd.func12, Tryd.ntmps12
  go_wp2_with (first | (go_at_call 14; refine mO.mono ?_; rintro e w1 ⟨g, rfl, o1, l1, b1⟩; have B1 := hide b1; have O1 := hide o1; have L1 := hide l1; clear b1 o1 l1) | (go_at_call 70; refine (rTrig_step g 77 now t w1 O1.out).mono ?_; rintro e w2 ⟨rfl, o2, b2⟩; have B2 := hide b2; have O2 := hide o2; clear b2 o2) | (go_at_call 69; refine (cells104 g _ _ _ 77 w2 O2.out).mono ?_; rintro e w3 ⟨rfl, rfl⟩))
  have B3 := B1.out.trans (B2.out.mono L1.out)
  go_ret
  exact ⟨w2.heap.size, rfl, Ob.new _ _ _, B3.size, (B3.alloc B3.size _).drew⟩
theorem stepped_6 (b off cap : Nat) (x0 x1 x2 : Int) (now : Int) (w : World) (c0 : w.cell? ⟨b, off, none⟩ = some (.int .i64 x0)) (c1 : w.cell? ⟨b, off + 1, none⟩ = some (.int .i64 x1)) (c2 : w.cell? ⟨b, off + 2, none⟩ = some (.int .i64 x2)) :
    Calls Tryd.prog 12 #[.int .i64 6, .slice (some ⟨b, off, none⟩) 3 cap, .int .i64 now] w (NewL w (rT (Tr.mk (x0 == 1) (x1 == 1) (x2 == 1))).ls) :=
  stepO_6 _ _ now w (blockOf_6 b off cap x0 x1 x2 w (triggerOf_any b off cap x0 x1 x2 w c0 c1 c2)) 
set_option maxRecDepth 100000 in
theorem ms_7 (g : Nat) (w : World) : (method 248 78 (.pointer (some ⟨g, 0, none⟩)) "capstan/block.step").run Tryd.prog w = .ok (71, .pointer (some ⟨g, 0, none⟩)) w := by rfl
set_option maxRecDepth 100000 in
theorem mc_7 (g : Nat) (w : World) : (method 248 78 (.pointer (some ⟨g, 0, none⟩)) "capstan/block.cells").run Tryd.prog w = .ok (69, .pointer (some ⟨g, 0, none⟩)) w := by rfl
set_option maxRecDepth 100000 in
set_option maxHeartbeats 1600000 in
theorem blockOf_7 (b off cap : Nat) (x0 x1 x2 : Int) (w : World) (mO : Calls Tryd.prog 18 #[.slice (some ⟨b, off, none⟩) 3 cap] w fun e w' => e = .returned (.agg #[.bool (x0 == 1), .bool (x1 == 1), .bool (x2 == 1)]) ∧ Below w.heap.size w w') :
    Calls Tryd.prog 14 #[.int .i64 7, .slice (some ⟨b, off, none⟩) 3 cap] w fun e w' => ∃ g, e = .returned (.iface 78 (.pointer (some ⟨g, 0, none⟩))) ∧ Ob w' g 79 (Tr.mk (x0 == 1) (x1 == 1) (x2 == 1)).ob ∧ w.heap.size ≤ g ∧ Below w.heap.size w w' := by
  go_enter Tryd.func14, Tryd.ntmps14
  go_wp2_with (first | (go_at_call 18; refine mO.mono ?_; rintro e w1 ⟨rfl, b1⟩; have B1 := hide b1; clear b1))
  go_ret
  exact ⟨w1.heap.size, rfl, Ob.new _ _ _, B1.out.size, B1.out.alloc B1.out.size _⟩
set_option maxRecDepth 100000 in
set_option maxHeartbeats 1600000 in
theorem stepO_7 (v : Value) (t : Tr) (now : Int) (w : World) (mO : Calls Tryd.prog 14 #[.int .i64 7, v] w fun e w' => ∃ g, e = .returned (.iface 78 (.pointer (some ⟨g, 0, none⟩))) ∧ Ob w' g 79 t.ob ∧ w.heap.size ≤ g ∧ Below w.heap.size w w') :
    Calls Tryd.prog 12 #[.int .i64 7, v, .int .i64 now] w (NewL w (fT t).ls) := by
  have q1 := ms_7
  have q2 := mc_7
  go_enter Tryd.func12, Tryd.ntmps12
  go_wp2_with (first | (go_at_call 14; refine mO.mono ?_; rintro e w1 ⟨g, rfl, o1, l1, b1⟩; have B1 := hide b1; have O1 := hide o1; have L1 := hide l1; clear b1 o1 l1) | (go_at_call 71; refine (fTrig_step g 79 now t w1 O1.out).mono ?_; rintro e w2 ⟨rfl, o2, b2⟩; have B2 := hide b2; have O2 := hide o2; clear b2 o2) | (go_at_call 69; refine (cells104 g _ _ _ 79 w2 O2.out).mono ?_; rintro e w3 ⟨rfl, rfl⟩))
  have B3 := B1.out.trans (B2.out.mono L1.out)
  go_ret
  exact ⟨w2.heap.size, rfl, Ob.new _ _ _, B3.size, (B3.alloc B3.size _).drew⟩
theorem stepped_7 (b off cap : Nat) (x0 x1 x2 : Int) (now : Int) (w : World) (c0 : w.cell? ⟨b, off, none⟩ = some (.int .i64 x0)) (c1 : w.cell? ⟨b, off + 1, none⟩ = some (.int .i64 x1)) (c2 : w.cell? ⟨b, off + 2, none⟩ = some (.int .i64 x2)) :
    Calls Tryd.prog 12 #[.int .i64 7, .slice (some ⟨b, off, none⟩) 3 cap, .int .i64 now] w (NewL w (fT (Tr.mk (x0 == 1) (x1 == 1) (x2 == 1))).ls) :=
  stepO_7 _ _ now w (blockOf_7 b off cap x0 x1 x2 w (triggerOf_any b off cap x0 x1 x2 w c0 c1 c2)) 
end Go.Proofs.YthifgfhgkdjkfabDoor
