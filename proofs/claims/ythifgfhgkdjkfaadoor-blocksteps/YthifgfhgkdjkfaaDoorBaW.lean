/- block: the objects that step. -/
import Derived.Test.YthifgfhgkdjkfaaDoorLsW
import Derived.Test.YthifgfhgkdjkfaaDoorNumP
import Derived.BigRegion
import Derived.BigQuiet
import Derived.Lib.QuietBelow
namespace Go.Proofs.YthifgfhgkdjkfaaDoor
open Go.RowKit
set_option maxRecDepth 100000 in
set_option maxHeartbeats 1600000 in
theorem timerOf_any (b off cap : Nat) (x0 x1 x2 x3 x4 x5 : Int) (w : World) (c0 : w.cell? ⟨b, off, none⟩ = some (.int .i64 x0)) (c1 : w.cell? ⟨b, off + 1, none⟩ = some (.int .i64 x1)) (c2 : w.cell? ⟨b, off + 2, none⟩ = some (.int .i64 x2)) (c3 : w.cell? ⟨b, off + 3, none⟩ = some (.int .i64 x3)) (c4 : w.cell? ⟨b, off + 4, none⟩ = some (.int .i64 x4)) (c5 : w.cell? ⟨b, off + 5, none⟩ = some (.int .i64 x5)) :
    Calls Tryd.prog 46 #[.slice (some ⟨b, off, none⟩) 6 cap] w fun e w' => e = .returned (.agg #[.bool (x0 == 1), .int .i64 x1, .bool (x2 == 1), .int .i64 x3, .int .i64 x4, .bool (x5 == 1)]) ∧ Below w.heap.size w w' := by
  have hb : b < w.heap.size := World.block_lt_of_cell? w _ c0
  go_enter Tryd.func46, Tryd.ntmps46
  go_wp2
  go_region
  go_wp2
  exact bodyPost_ret (results_cell_row rfl _ _ w.heap.size 97 #[.bool (x0 == 1), .int .i64 x1, .bool (x2 == 1), .int .i64 x3, .int .i64 x4, .bool (x5 == 1)] (0, 0) _ rfl (heap_alloc_new _ _) Tryd.underlying97 rfl (by kernel_rfl)) rfl ⟨rfl, ((Below.refl _ _).alloc (Nat.le_refl _) _).drew⟩
set_option maxRecDepth 100000 in
set_option maxHeartbeats 1600000 in
theorem counterOf_any (b off cap : Nat) (x0 x1 x2 x3 x4 x5 : Int) (w : World) (c0 : w.cell? ⟨b, off, none⟩ = some (.int .i64 x0)) (c1 : w.cell? ⟨b, off + 1, none⟩ = some (.int .i64 x1)) (c2 : w.cell? ⟨b, off + 2, none⟩ = some (.int .i64 x2)) (c3 : w.cell? ⟨b, off + 3, none⟩ = some (.int .i64 x3)) (c4 : w.cell? ⟨b, off + 4, none⟩ = some (.int .i64 x4)) (c5 : w.cell? ⟨b, off + 5, none⟩ = some (.int .i64 x5)) :
    Calls Tryd.prog 47 #[.slice (some ⟨b, off, none⟩) 6 cap] w fun e w' => e = .returned (.agg #[.bool (x0 == 1), .bool (x1 == 1), .int .i64 x2, .bool (x3 == 1), .int .i64 x4, .bool (x5 == 1)]) ∧ Below w.heap.size w w' := by
  have hb : b < w.heap.size := World.block_lt_of_cell? w _ c0
  go_enter Tryd.func47, Tryd.ntmps47
  go_wp2
  go_region
  go_wp2
  exact bodyPost_ret (results_cell_row rfl _ _ w.heap.size 107 #[.bool (x0 == 1), .bool (x1 == 1), .int .i64 x2, .bool (x3 == 1), .int .i64 x4, .bool (x5 == 1)] (0, 0) _ rfl (heap_alloc_new _ _) Tryd.underlying107 rfl (by kernel_rfl)) rfl ⟨rfl, ((Below.refl _ _).alloc (Nat.le_refl _) _).drew⟩
set_option maxRecDepth 100000 in
set_option maxHeartbeats 1600000 in
theorem triggerOf_any (b off cap : Nat) (x0 x1 x2 : Int) (w : World) (c0 : w.cell? ⟨b, off, none⟩ = some (.int .i64 x0)) (c1 : w.cell? ⟨b, off + 1, none⟩ = some (.int .i64 x1)) (c2 : w.cell? ⟨b, off + 2, none⟩ = some (.int .i64 x2)) :
    Calls Tryd.prog 48 #[.slice (some ⟨b, off, none⟩) 3 cap] w fun e w' => e = .returned (.agg #[.bool (x0 == 1), .bool (x1 == 1), .bool (x2 == 1)]) ∧ Below w.heap.size w w' := by
  have hb : b < w.heap.size := World.block_lt_of_cell? w _ c0
  go_enter Tryd.func48, Tryd.ntmps48
  go_wp2
  go_region
  go_wp2
  exact bodyPost_ret (results_cell_row rfl _ _ w.heap.size 115 #[.bool (x0 == 1), .bool (x1 == 1), .bool (x2 == 1)] (0, 0) _ rfl (heap_alloc_new _ _) Tryd.underlying115 rfl (by kernel_rfl)) rfl ⟨rfl, ((Below.refl _ _).alloc (Nat.le_refl _) _).drew⟩
set_option maxRecDepth 100000 in
set_option maxHeartbeats 1600000 in
theorem latchOf_any (b off cap : Nat) (x0 x1 x2 : Int) (w : World) (c0 : w.cell? ⟨b, off, none⟩ = some (.int .i64 x0)) (c1 : w.cell? ⟨b, off + 1, none⟩ = some (.int .i64 x1)) (c2 : w.cell? ⟨b, off + 2, none⟩ = some (.int .i64 x2)) :
    Calls Tryd.prog 49 #[.slice (some ⟨b, off, none⟩) 3 cap] w fun e w' => e = .returned (.agg #[.bool (x0 == 1), .bool (x1 == 1), .bool (x2 == 1)]) ∧ Below w.heap.size w w' := by
  have hb : b < w.heap.size := World.block_lt_of_cell? w _ c0
  go_enter Tryd.func49, Tryd.ntmps49
  go_wp2
  go_region
  go_wp2
  exact bodyPost_ret (results_cell_row rfl _ _ w.heap.size 123 #[.bool (x0 == 1), .bool (x1 == 1), .bool (x2 == 1)] (0, 0) _ rfl (heap_alloc_new _ _) Tryd.underlying123 rfl (by kernel_rfl)) rfl ⟨rfl, ((Below.refl _ _).alloc (Nat.le_refl _) _).drew⟩
set_option maxRecDepth 100000 in
set_option maxHeartbeats 1600000 in
theorem coderOf_any (b off cap : Nat) (x0 x1 x2 x3 x4 x5 : Int) (w : World) (c0 : w.cell? ⟨b, off, none⟩ = some (.int .i64 x0)) (c1 : w.cell? ⟨b, off + 1, none⟩ = some (.int .i64 x1)) (c2 : w.cell? ⟨b, off + 2, none⟩ = some (.int .i64 x2)) (c3 : w.cell? ⟨b, off + 3, none⟩ = some (.int .i64 x3)) (c4 : w.cell? ⟨b, off + 4, none⟩ = some (.int .i64 x4)) (c5 : w.cell? ⟨b, off + 5, none⟩ = some (.int .i64 x5)) :
    Calls Tryd.prog 50 #[.slice (some ⟨b, off, none⟩) 6 cap] w fun e w' => e = .returned (.agg #[.bool (x0 == 1), .bool (x1 == 1), .bool (x2 == 1), .int .i64 x3, .bool (x4 == 1), .int .i64 x5]) ∧ Below w.heap.size w w' := by
  have hb : b < w.heap.size := World.block_lt_of_cell? w _ c0
  go_enter Tryd.func50, Tryd.ntmps50
  go_wp2
  go_region
  go_wp2
  exact bodyPost_ret (results_cell_row rfl _ _ w.heap.size 131 #[.bool (x0 == 1), .bool (x1 == 1), .bool (x2 == 1), .int .i64 x3, .bool (x4 == 1), .int .i64 x5] (0, 0) _ rfl (heap_alloc_new _ _) Tryd.underlying131 rfl (by kernel_rfl)) rfl ⟨rfl, ((Below.refl _ _).alloc (Nat.le_refl _) _).drew⟩
end Go.Proofs.YthifgfhgkdjkfaaDoor
