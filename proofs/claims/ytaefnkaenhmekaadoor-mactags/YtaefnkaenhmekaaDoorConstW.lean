/- The contract of the document's constants. -/
import Derived.Test.YtaefnkaenhmekaaDoorRef
import Derived.Test.YtaefnkaenhmekaaDoorLeaf
import Derived.Deep.RegionHeld3
import Derived.Deep.AppendLies
import Derived.OwnWalk
import Derived.Deep.QuietTactic
import Derived.BigQuiet
import Derived.Deep.DeepMust
namespace Go.Proofs.YtaefnkaenhmekaaDoor
open Go.RowKit
attribute [local go_sem] wrap_V wrap_add bits_xor bits_and bits_or bits_not
attribute [local go_sem ↓] shl_any shr_any wrap_byte
theorem info37 : (Tryd.prog.info? 42).map (fun i => (i.zero, i.size, i.bytes)) = some (some (.int .u32 0), 1, 4) := by kernel_rfl
def kVals : Array Value := (kTab.map fun (n : Nat) => Value.int .u32 (n : Int)).toArray
theorem kVals_get (t : Nat) (h : t < 64) : kVals[t]? = some (.int .u32 (V (kAt t))) := by
  have e : ∀ t : Fin 64, kTab[t.val]? = some (kTab.getD t.val 0) ∧ ((kTab.getD t.val 0 : Nat) : Int) = V (kAt t.val) := by decide +kernel
  obtain ⟨e1, e2⟩ := e ⟨t, h⟩
  unfold kVals
  rw [List.getElem?_toArray, List.getElem?_map, e1]
  show some (Value.int .u32 _) = _
  rw [e2]
theorem k_cells (w : World) (c : Array Value) (hc : c = kVals) (t : Nat) (ht : t < 64) : (w.alloc (.cells c 42)).cell? ⟨w.heap.size, t, none⟩ = some (.int .u32 (V (kAt t))) := by
  subst hc
  rw [cell_of_row _ _ _ kVals _ _ (heap_alloc_new _ _)]
  exact kVals_get t ht
set_option maxRecDepth 100000 in
set_option maxHeartbeats 800000 in
theorem constants_any (w : World) : Calls Tryd.prog 37 #[] w fun e w' => e = .returned (.slice (some ⟨w.heap.size, 0, none⟩) 64 64) ∧ (∀ t, t < 64 → w'.cell? ⟨w.heap.size, t, none⟩ = some (.int .u32 (V (kAt t)))) ∧ w.heap.size < w'.heap.size ∧ Below w.heap.size w w' := by
  go_enter Tryd.func37, Tryd.ntmps37
  go_wp2
  go_ret
  refine ⟨rfl, ?_, ?_, ?_⟩
  · exact fun t ht => k_cells w _ rfl t ht
  · simp
  · exact (Below.refl _ _).alloc (Nat.le_refl _) _
end Go.Proofs.YtaefnkaenhmekaaDoor
