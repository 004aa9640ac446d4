/- The contract of strings.Clone. -/
import Derived.Test.YtkicbmjjbnblfaaDoorRxW
import Derived.Lib.UnsafeStr
import Derived.Lib.BufferWrite
import Derived.OwnWalk
namespace Go.Proofs.YtkicbmjjbnblfaaDoor
open Go.RowKit
def encB (b : UInt8) : Value := .int .u8 (b.toNat : Int)
def encK (f : List UInt8) : Array Value := (f.map encB).toArray
theorem encK_size (f : List UInt8) : (encK f).size = f.length := by simp [encK]
theorem encK_get (f : List UInt8) (k : Nat) (x : UInt8) (h : f[k]? = some x) : (encK f)[k]? = some (.int .u8 (x.toNat : Int)) := by
  unfold encK
  rw [List.getElem?_toArray, List.getElem?_map, h]; rfl
theorem addr_add (g j : Nat) : (⟨g, 0, none⟩ : Addr).add j = ⟨g, j, none⟩ := by unfold Addr.add; split <;> simp_all
theorem in5 : (Tryd.prog.info? 5).map (fun i => (i.zero, i.size, i.bytes)) = some (some (.int .u8 0), 1, 1) := by kernel_rfl
theorem z5 : (Tryd.prog.info? 5).map (·.size) = some 1 := by kernel_rfl
theorem c5w : Tryd.prog.cellsOf 5 = 1 := by kernel_rfl
theorem heap_setRow_same (w : World) (g : Nat) (old cs : Array Value) (t : TypeId) (hg : w.heap[g]? = some (.cells old t (0, 0))) : (w.setRow g cs).heap[g]? = some (.cells cs t (0, 0)) := setRow_heap w g old cs t _ hg
theorem below_setRow1 (w : World) (B g : Nat) (cs : Array Value) (h : B ≤ g) : Below B w (w.setRow g cs) :=
  ⟨rfl, rfl, rfl, by simp, fun k hk => by
    simp only [World.setRow, Array.getElem?_modify]
    rw [if_neg (by omega)]⟩
set_option maxRecDepth 100000 in
set_option maxHeartbeats 1600000 in
theorem clone_any (s : ByteArray) (hn : s.size ≤ 140737488355000) (w : World) :
    Calls Tryd.prog 51 #[.string s] w fun e w' => e = .returned (.string s) ∧ Below w.heap.size w w' := by
  by_cases h0 : s.size = 0
  · obtain rfl : s = ⟨#[]⟩ := ByteArray.ext (Array.eq_empty_of_size_eq_zero h0)
    go_enter Tryd.func51, Tryd.ntmps51
    go_wp2
    go_ret
    exact ⟨rfl, Below.refl _ _⟩
  · obtain ⟨i0, hi, hz0, hz1, hz2⟩ := info_parts in5
    have hne : s.data.toList ≠ [] := fun e => h0 (by rw [← text_len, e]; rfl)
    have hmk : ∀ u : World, (Instr.makeSlice 114 (.int .i64 (s.size : Int)) (.int .i64 (s.size : Int))).run Tryd.prog u =
        .ok (.slice (some ⟨u.heap.size, 0, none⟩) s.size s.size) (u.alloc (.cells (madeCells #[.int .u8 0] s.size) 5)) := fun u => by
      have h := run_make (P := Tryd.prog) u 114 5 i0 (.int .u8 0) Tryd.underlying114 hi hz0 .i64 .i64 (s.size : Int) (s.size : Int) (by omega) (by omega) (by rw [hz2]; omega) (by omega)
      simpa [hz1, Value.cells] using h
    have hMs : (madeCells #[.int .u8 0] s.size).size = s.size := by simp [madeCells]
    generalize madeCells #[.int .u8 0] s.size = M at *
    have hcp := Lib.run_copy_row_string (P := Tryd.prog) (w.alloc (.cells M 5)) 114 9 3 5 w.heap.size 0 s.size s.size s M 5 Tryd.underlying114 z5 (heap_alloc_new w _) (Nat.le_refl _) (by omega)
    have hY : (M.toList.take 0 ++ Lib.byteCells s.data.toList ++ M.toList.drop (0 + s.size)).toArray = encK s.data.toList := by
      rw [List.drop_of_length_le (by rw [Array.length_toList]; omega)]
      unfold encK Lib.byteCells
      simp
      exact fun _ _ => rfl
    rw [hY] at hcp
    have hgY := heap_setRow_same (w.alloc (.cells M 5)) w.heap.size M (encK s.data.toList) 5 (heap_alloc_new w _)
    have hB : Below w.heap.size w ((w.alloc (.cells M 5)).setRow w.heap.size (encK s.data.toList)) := ((Below.refl _ _).alloc (Nat.le_refl _) _).trans (below_setRow1 _ _ _ _ (by omega))
    have hUS := Lib.run_unsafeString_row (P := Tryd.prog) ((w.alloc (.cells M 5)).setRow w.heap.size (encK s.data.toList)) 115 3 9 5 Tryd.underlying115 c5w w.heap.size (encK s.data.toList).size (by unfold World.shape?; rw [hgY]) s.data.toList hne (by rw [encK_size]; exact Nat.le_refl _) (by rw [text_len]; omega)
      (fun j x hx => by rw [addr_add, cell_of_row _ _ _ _ _ _ hgY]; exact encK_get _ _ _ hx)
    rw [text_len] at hUS
    have hF : Hid (Below w.heap.size w (((w.alloc (.cells M 5)).setRow w.heap.size (encK s.data.toList)).freeze ⟨w.heap.size, 0, none⟩ s.size)) := Lib.below_freeze hB (p := ⟨w.heap.size, 0, none⟩) (Nat.le_refl _) _
    clear hY hMs hB hi hne hgY
    have i1 : ((s.size : Int) == 0) = false := by rw [beq_eq_false_iff_ne]; omega
    have i2 : (0 : Int) < (s.size : Int) := by omega
    generalize (w.alloc (.cells M 5)).setRow w.heap.size (encK s.data.toList) = W2 at *
    go_enter Tryd.func51, Tryd.ntmps51
    go_wp2
    go_ret
    exact ⟨rfl, hF⟩
set_option maxHeartbeats 800000 in
theorem sclone_any (s : ByteArray) (hn : s.size ≤ 140737488355000) (w : World) :
    Calls Tryd.prog 28 #[.string s] w fun e w' => e = .returned (.string s) ∧ Below w.heap.size w w' := by
  go_enter Tryd.func28, Tryd.ntmps28
  go_wp2_with fail
  refine (clone_any s hn _).mono ?_
  rintro e w1 ⟨rfl, hb1⟩
  have b1 : Hid (Below w.heap.size w w1) := hb1
  clear hb1
  go_wp2
  go_ret
  exact ⟨rfl, b1⟩
end Go.Proofs.YtkicbmjjbnblfaaDoor
