/- The contract of (*Hash).Fork. -/
import Derived.Test.YtndpomcfoogchaaDoorHashW
namespace Go.Proofs.YtndpomcfoogchaaDoor
open Go.RowKit
theorem all_oneCell_encH (s : St) (tl : List UInt8) (n : Nat) : (encH s tl n).all (·.oneCell') = true := by
  unfold encH encS encB
  simp [Value.oneCell']
set_option maxRecDepth 100000 in
set_option maxHeartbeats 800000 in
theorem fork_any (g : Nat) (l : List UInt8) (w : World) (hH : HashIs w g l) :
    Calls Tryd.prog 17 #[.pointer (some ⟨g, 0, none⟩)] w fun e w' => e = .returned (.pointer (some ⟨w.heap.size, 0, none⟩)) ∧ HashIs w' w.heap.size l ∧ Below w.heap.size w w' := by
  obtain ⟨tl, ⟨hb, htl⟩, hr⟩ := hH
  have hz := (zero_of_info info46).1
  have hsz := zH_size
  have hs : (Tryd.prog.info? 46).map (·.size) = some (encH (stOf l) tl l.length).size := by rw [encH_size _ _ _ htl]; exact z46
  have hone := all_oneCell_encH (stOf l) tl l.length
  have hzs : zH.size = (encH (stOf l) tl l.length).size := by rw [encH_size _ _ _ htl]; exact hsz
  have hfin : Hid (∀ W : World, HashIs (W.alloc (.cells (encH (stOf l) tl l.length) 46)) W.heap.size l) := fun W => ⟨tl, ⟨heap_alloc_new _ _, htl⟩, hr⟩
  generalize encH (stOf l) tl l.length = A at *
  clear hr
  go_enter Tryd.func17, Tryd.ntmps17
  go_wp2_with (first | ((with_reducible refine at_load ?_); go_must (refine loads_arm 6 46 (.tmp 5) _ _ A _ _ hb Tryd.underlying46 hs rfl ?_)) | ((with_reducible refine at_store ?_); go_must (refine store_arm 46 (.tmp 3) (.tmp 6) _ _ _ _ (heap_alloc_new _ _) hs hzs hone rfl rfl ?_; rw [World.setRow_alloc_new])))
  go_ret
  exact ⟨rfl, hfin.out w, (Below.refl _ _).alloc (Nat.le_refl _) _⟩
end Go.Proofs.YtndpomcfoogchaaDoor
