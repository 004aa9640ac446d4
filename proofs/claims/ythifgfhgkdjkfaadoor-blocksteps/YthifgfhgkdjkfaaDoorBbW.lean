/- block: what an object's cells are. -/
import Derived.Test.YthifgfhgkdjkfaaDoorLsW
import Derived.Test.YthifgfhgkdjkfaaDoorNumP
import Derived.BigRegion
import Derived.BigQuiet
import Derived.Lib.QuietBelow
import Derived.Deep.RegionHeld3
import Derived.Lib.Builder
import Derived.Lib.BufferMore
namespace Go.Proofs.YthifgfhgkdjkfaaDoor
open Go.RowKit
set_option maxHeartbeats 400000 in
theorem bit_any (b : Bool) (w : World) : Calls Tryd.prog 74 #[.bool b] w fun e w' => e = .returned (.int .i64 (flagN b)) ∧ w' = w := by
  cases b
  all_goals
    go_enter Tryd.func74, Tryd.ntmps74
    go_wp2
    go_ret
    exact ⟨rfl, rfl⟩
/-- an object's cells -/
def Ob (w : World) (g : Nat) (T : TypeId) (cs : Array Value) : Prop := w.heap[g]? = some (.cells cs T (0, 0))
theorem Ob.cell {w : World} {g : Nat} {T : TypeId} {cs : Array Value} (h : Ob w g T cs) (k : Nat) {v : Value} (hv : cs[k]? = some v) : w.cell? ⟨g, k, none⟩ = some v := by rw [Lib.cell_of_heap h]; exact hv
theorem Ob.fr {w : World} {g : Nat} {T : TypeId} {cs : Array Value} (h : Ob w g T cs) (k : Nat) : w.frozen? ⟨g, k, none⟩ = false := Lib.frozen_of_heap h k
theorem Ob.set {w : World} {g : Nat} {T : TypeId} {cs : Array Value} (h : Ob w g T cs) (k : Nat) (v : Value) {ds : Array Value} (hd : cs.setIfInBounds k v = ds) : Ob (w.setCell ⟨g, k, none⟩ v) g T ds := by
  subst hd
  exact Lib.heap_setCell_same h v
theorem Ob.on {w w' : World} {g B : Nat} {T : TypeId} {cs : Array Value} (h : Ob w g T cs) (hb : Below B w w') (hB : g < B) : Ob w' g T cs := (hb.block g hB).trans h
theorem Ob.lt {w : World} {g : Nat} {T : TypeId} {cs : Array Value} (h : Ob w g T cs) : g < w.heap.size := (Array.getElem?_eq_some_iff.1 h).1
theorem Ob.new (w : World) (T : TypeId) (cs : Array Value) : Ob (w.alloc (.cells cs T)) w.heap.size T cs := heap_alloc_new _ _
set_option maxRecDepth 100000 in
set_option maxHeartbeats 1600000 in
theorem cells72 (g : Nat) (x0 x2 x5 : Bool) (x1 x3 x4 : Int) (T : TypeId) (w : World) (h : Ob w g T #[.bool x0, .int .i64 x1, .bool x2, .int .i64 x3, .int .i64 x4, .bool x5]) :
    Calls Tryd.prog 72 #[.pointer (some ⟨g, 0, none⟩)] w fun e w' => e = .returned (.slice (some ⟨w.heap.size, 0, none⟩) 6 6) ∧ w' = (w.alloc (.cells #[.int .i64 (flagN x0), .int .i64 x1, .int .i64 (flagN x2), .int .i64 x3, .int .i64 x4, .int .i64 (flagN x5)] 2)).drew := by
  have m1 := fun b W => bit_any b W
  have c0 := h.cell 0 (v := _) rfl
  have c1 := h.cell 1 (v := _) rfl
  have c2 := h.cell 2 (v := _) rfl
  have c3 := h.cell 3 (v := _) rfl
  have c4 := h.cell 4 (v := _) rfl
  have c5 := h.cell 5 (v := _) rfl
  clear h
  go_enter Tryd.func72, Tryd.ntmps72
  go_wp2_with fail
  go_region_held3 (fun W => W.cell? ⟨g, 0, none⟩ = some (.bool x0) ∧ W.cell? ⟨g, 1, none⟩ = some (.int .i64 x1) ∧ W.cell? ⟨g, 2, none⟩ = some (.bool x2) ∧ W.cell? ⟨g, 3, none⟩ = some (.int .i64 x3) ∧ W.cell? ⟨g, 4, none⟩ = some (.int .i64 x4) ∧ W.cell? ⟨g, 5, none⟩ = some (.bool x5)) (go_keep) (first | (go_at_call 74; refine (m1 _ _).mono ?_; rintro e w1 ⟨rfl, rfl⟩))
  go_wp2
  go_ret
  exact ⟨rfl, rfl⟩
set_option maxRecDepth 100000 in
set_option maxHeartbeats 1600000 in
theorem cells100 (g : Nat) (x0 x1 x3 x5 : Bool) (x2 x4 : Int) (T : TypeId) (w : World) (h : Ob w g T #[.bool x0, .bool x1, .int .i64 x2, .bool x3, .int .i64 x4, .bool x5]) :
    Calls Tryd.prog 100 #[.pointer (some ⟨g, 0, none⟩)] w fun e w' => e = .returned (.slice (some ⟨w.heap.size, 0, none⟩) 6 6) ∧ w' = (w.alloc (.cells #[.int .i64 (flagN x0), .int .i64 (flagN x1), .int .i64 x2, .int .i64 (flagN x3), .int .i64 x4, .int .i64 (flagN x5)] 2)).drew := by
  have m1 := fun b W => bit_any b W
  have c0 := h.cell 0 (v := _) rfl
  have c1 := h.cell 1 (v := _) rfl
  have c2 := h.cell 2 (v := _) rfl
  have c3 := h.cell 3 (v := _) rfl
  have c4 := h.cell 4 (v := _) rfl
  have c5 := h.cell 5 (v := _) rfl
  clear h
  go_enter Tryd.func100, Tryd.ntmps100
  go_wp2_with fail
  go_region_held3 (fun W => W.cell? ⟨g, 0, none⟩ = some (.bool x0) ∧ W.cell? ⟨g, 1, none⟩ = some (.bool x1) ∧ W.cell? ⟨g, 2, none⟩ = some (.int .i64 x2) ∧ W.cell? ⟨g, 3, none⟩ = some (.bool x3) ∧ W.cell? ⟨g, 4, none⟩ = some (.int .i64 x4) ∧ W.cell? ⟨g, 5, none⟩ = some (.bool x5)) (go_keep) (first | (go_at_call 74; refine (m1 _ _).mono ?_; rintro e w1 ⟨rfl, rfl⟩))
  go_wp2
  go_ret
  exact ⟨rfl, rfl⟩
set_option maxRecDepth 100000 in
set_option maxHeartbeats 1600000 in
theorem cells104 (g : Nat) (x0 x1 x2 : Bool) (T : TypeId) (w : World) (h : Ob w g T #[.bool x0, .bool x1, .bool x2]) :
    Calls Tryd.prog 104 #[.pointer (some ⟨g, 0, none⟩)] w fun e w' => e = .returned (.slice (some ⟨w.heap.size, 0, none⟩) 3 3) ∧ w' = (w.alloc (.cells #[.int .i64 (flagN x0), .int .i64 (flagN x1), .int .i64 (flagN x2)] 2)).drew := by
  have m1 := fun b W => bit_any b W
  have c0 := h.cell 0 (v := _) rfl
  have c1 := h.cell 1 (v := _) rfl
  have c2 := h.cell 2 (v := _) rfl
  clear h
  go_enter Tryd.func104, Tryd.ntmps104
  go_wp2_with fail
  go_region_held3 (fun W => W.cell? ⟨g, 0, none⟩ = some (.bool x0) ∧ W.cell? ⟨g, 1, none⟩ = some (.bool x1) ∧ W.cell? ⟨g, 2, none⟩ = some (.bool x2)) (go_keep) (first | (go_at_call 74; refine (m1 _ _).mono ?_; rintro e w1 ⟨rfl, rfl⟩))
  go_wp2
  go_ret
  exact ⟨rfl, rfl⟩
set_option maxRecDepth 100000 in
set_option maxHeartbeats 1600000 in
theorem cells107 (g : Nat) (x0 x1 x2 : Bool) (T : TypeId) (w : World) (h : Ob w g T #[.bool x0, .bool x1, .bool x2]) :
    Calls Tryd.prog 107 #[.pointer (some ⟨g, 0, none⟩)] w fun e w' => e = .returned (.slice (some ⟨w.heap.size, 0, none⟩) 3 3) ∧ w' = (w.alloc (.cells #[.int .i64 (flagN x0), .int .i64 (flagN x1), .int .i64 (flagN x2)] 2)).drew := by
  have m1 := fun b W => bit_any b W
  have c0 := h.cell 0 (v := _) rfl
  have c1 := h.cell 1 (v := _) rfl
  have c2 := h.cell 2 (v := _) rfl
  clear h
  go_enter Tryd.func107, Tryd.ntmps107
  go_wp2_with fail
  go_region_held3 (fun W => W.cell? ⟨g, 0, none⟩ = some (.bool x0) ∧ W.cell? ⟨g, 1, none⟩ = some (.bool x1) ∧ W.cell? ⟨g, 2, none⟩ = some (.bool x2)) (go_keep) (first | (go_at_call 74; refine (m1 _ _).mono ?_; rintro e w1 ⟨rfl, rfl⟩))
  go_wp2
  go_ret
  exact ⟨rfl, rfl⟩
set_option maxRecDepth 100000 in
set_option maxHeartbeats 1600000 in
theorem cells110 (g : Nat) (x0 x1 x2 x4 : Bool) (x3 x5 : Int) (T : TypeId) (w : World) (h : Ob w g T #[.bool x0, .bool x1, .bool x2, .int .i64 x3, .bool x4, .int .i64 x5]) :
    Calls Tryd.prog 110 #[.pointer (some ⟨g, 0, none⟩)] w fun e w' => e = .returned (.slice (some ⟨w.heap.size, 0, none⟩) 6 6) ∧ w' = (w.alloc (.cells #[.int .i64 (flagN x0), .int .i64 (flagN x1), .int .i64 (flagN x2), .int .i64 x3, .int .i64 (flagN x4), .int .i64 x5] 2)).drew := by
  have m1 := fun b W => bit_any b W
  have c0 := h.cell 0 (v := _) rfl
  have c1 := h.cell 1 (v := _) rfl
  have c2 := h.cell 2 (v := _) rfl
  have c3 := h.cell 3 (v := _) rfl
  have c4 := h.cell 4 (v := _) rfl
  have c5 := h.cell 5 (v := _) rfl
  clear h
  go_enter Tryd.func110, Tryd.ntmps110
  go_wp2_with fail
  go_region_held3 (fun W => W.cell? ⟨g, 0, none⟩ = some (.bool x0) ∧ W.cell? ⟨g, 1, none⟩ = some (.bool x1) ∧ W.cell? ⟨g, 2, none⟩ = some (.bool x2) ∧ W.cell? ⟨g, 3, none⟩ = some (.int .i64 x3) ∧ W.cell? ⟨g, 4, none⟩ = some (.bool x4) ∧ W.cell? ⟨g, 5, none⟩ = some (.int .i64 x5)) (go_keep) (first | (go_at_call 74; refine (m1 _ _).mono ?_; rintro e w1 ⟨rfl, rfl⟩))
  go_wp2
  go_ret
  exact ⟨rfl, rfl⟩
end Go.Proofs.YthifgfhgkdjkfaaDoor
