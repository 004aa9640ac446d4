/- The contracts of mac.Check, Make, Seal, strings.Clone and mac.Open. -/
import Derived.Test.YtaefnkaenhmekaaDoorEqW
import Derived.Deep.RegionWith
import Derived.Lib.UnsafeStr
namespace Go.Proofs.YtaefnkaenhmekaaDoor
open Go.RowKit
/-- the tag as a text -/
def tagS (k m : ByteArray) : ByteArray := ⟨(tagL k.data.toList m.data.toList).toArray⟩
theorem tagS_size (k m : ByteArray) : (tagS k m).size = 32 := by unfold tagS; rw [list_size, tagL_length]
def checkE (k m t : ByteArray) : Int := if tagS k m = t then 0 else 20
def headS (s : ByteArray) : ByteArray := s.extract 0 (s.size - 32)
def tailS (s : ByteArray) : ByteArray := s.extract (s.size - 32) s.size
def openE (k s : ByteArray) : Int := if s.size < 32 then 20 else checkE k (headS s) (tailS s)
def openA (k s : ByteArray) : ByteArray := if openE k s = 0 then headS s else ⟨#[]⟩
theorem headS_size (s : ByteArray) : (headS s).size ≤ s.size := by unfold headS; simp [ByteArray.size_extract]
theorem tailS_size (s : ByteArray) : (tailS s).size ≤ s.size := by unfold tailS; simp [ByteArray.size_extract]
set_option maxHeartbeats 800000 in
theorem check_any (k m t : ByteArray) (hk : k.size < 1152921504606846000) (hm : m.size < 1152921504606846000) (ht : t.size < 1152921504606846000) (w : World) (hTab : Tab w) (h0 : 0 < w.heap.size) :
    Calls Tryd.prog 12 #[.string k, .string m, .string t] w fun e w' => e = .returned (.int .i64 (checkE k m t)) ∧ Below w.heap.size w w' := by
  have c1 : Calls Tryd.prog 9 #[.string k, .string m] w fun e w' => e = .returned (.string (tagS k m)) ∧ Below w.heap.size w w' := tag_any k m (by omega) hm w hTab h0
  have hsz := tagS_size k m
  have c2 := fun W => equal_any (tagS k m) t (by omega) (by omega) W
  unfold checkE
  generalize tagS k m = T at *
  clear hTab
  by_cases h : T = t
  · rw [if_pos h]
    rw [decide_eq_true h] at c2
    clear h
    go_enter Tryd.func12, Tryd.ntmps12
    go_wp2_with fail
    refine c1.mono ?_
    rintro e w1 ⟨rfl, hb1⟩
    go_wp2_with fail
    refine (c2 w1).mono ?_
    rintro e w2 ⟨rfl, hb2⟩
    have b2 : Hid (Below w.heap.size w w2) := hb1.trans (hb2.mono hb1.size)
    clear hb1 hb2
    go_wp2
    go_ret
    exact ⟨rfl, b2⟩
  · rw [if_neg h]
    rw [decide_eq_false h] at c2
    clear h
    go_enter Tryd.func12, Tryd.ntmps12
    go_wp2_with fail
    refine c1.mono ?_
    rintro e w1 ⟨rfl, hb1⟩
    go_wp2_with fail
    refine (c2 w1).mono ?_
    rintro e w2 ⟨rfl, hb2⟩
    have b2 : Hid (Below w.heap.size w w2) := hb1.trans (hb2.mono hb1.size)
    clear hb1 hb2
    go_wp2
    go_ret
    exact ⟨rfl, b2⟩
set_option maxHeartbeats 800000 in
theorem make_any (k m : ByteArray) (hk : k.size < 1152921504606846000) (hm : m.size < 1152921504606846000) (w : World) (hTab : Tab w) (h0 : 0 < w.heap.size) :
    Calls Tryd.prog 10 #[.string k, .string m] w fun e w' => e = .returned (.string (tagS k m)) ∧ Below w.heap.size w w' := by
  have c1 : Calls Tryd.prog 9 #[.string k, .string m] w fun e w' => e = .returned (.string (tagS k m)) ∧ Below w.heap.size w w' := tag_any k m (by omega) hm w hTab h0
  generalize tagS k m = T at *
  clear hTab
  go_enter Tryd.func10, Tryd.ntmps10
  go_wp2_with fail
  refine c1.mono ?_
  rintro e w1 ⟨rfl, hb1⟩
  have b1 : Hid (Below w.heap.size w w1) := hb1
  clear hb1
  go_wp2
  go_ret
  exact ⟨rfl, b1⟩
set_option maxHeartbeats 800000 in
theorem seal_any (k m : ByteArray) (hk : k.size < 1152921504606846000) (hm : m.size < 1152921504606846000) (w : World) (hTab : Tab w) (h0 : 0 < w.heap.size) :
    Calls Tryd.prog 17 #[.string k, .string m] w fun e w' => e = .returned (.string (m ++ tagS k m)) ∧ Below w.heap.size w w' := by
  have c1 : Calls Tryd.prog 9 #[.string k, .string m] w fun e w' => e = .returned (.string (tagS k m)) ∧ Below w.heap.size w w' := tag_any k m (by omega) hm w hTab h0
  have hsz := tagS_size k m
  generalize tagS k m = T at *
  have a1 : ∀ W : World, (Op.stringOp .add m T).run Tryd.prog W = .ok (.string (m ++ T)) W := fun W => run_string_add_sum W _ _ (by omega)
  clear hTab hsz
  go_enter Tryd.func17, Tryd.ntmps17
  go_wp2_with fail
  refine c1.mono ?_
  rintro e w1 ⟨rfl, hb1⟩
  have b1 : Hid (Below w.heap.size w w1) := hb1
  clear hb1
  go_wp2
  go_ret
  exact ⟨rfl, b1⟩
theorem i5w : (Tryd.prog.info? 5).map (fun i => (i.zero, i.size, i.bytes)) = some (some (.int .u8 0), 1, 1) := by kernel_rfl
theorem c5w : Tryd.prog.cellsOf 5 = 1 := by kernel_rfl
set_option maxRecDepth 100000 in
set_option maxHeartbeats 1600000 in
theorem clone_any (s : ByteArray) (hn : s.size ≤ 140737488355000) (w : World) :
    Calls Tryd.prog 32 #[.string s] w fun e w' => e = .returned (.string s) ∧ Below w.heap.size w w' := by
  by_cases h0 : s.size = 0
  · obtain rfl : s = ⟨#[]⟩ := ByteArray.ext (Array.eq_empty_of_size_eq_zero h0)
    go_enter Tryd.func32, Tryd.ntmps32
    go_wp2
    go_ret
    exact ⟨rfl, Below.refl _ _⟩
  · obtain ⟨i0, hi, hz0, hz1, hz2⟩ := info_parts i5w
    have hne : s.data.toList ≠ [] := fun e => h0 (by rw [← text_len, e]; rfl)
    have hmk : ∀ u : World, (Instr.makeSlice 32 (.int .i64 (s.size : Int)) (.int .i64 (s.size : Int))).run Tryd.prog u =
        .ok (.slice (some ⟨u.heap.size, 0, none⟩) s.size s.size) (u.alloc (.cells (madeCells #[.int .u8 0] s.size) 5)) := fun u => by
      have h := run_make (P := Tryd.prog) u 32 5 i0 (.int .u8 0) Tryd.underlying32 hi hz0 .i64 .i64 (s.size : Int) (s.size : Int) (by omega) (by omega) (by rw [hz2]; omega) (by omega)
      simpa [hz1, Value.cells] using h
    have hMs : (madeCells #[.int .u8 0] s.size).size = s.size := by simp [madeCells]
    generalize madeCells #[.int .u8 0] s.size = M at *
    have hcp := Lib.run_copy_row_string (P := Tryd.prog) (w.alloc (.cells M 5)) 32 9 3 5 w.heap.size 0 s.size s.size s M 5 Tryd.underlying32 z5 (heap_alloc_new w _) (Nat.le_refl _) (by omega)
    have hY : (M.toList.take 0 ++ Lib.byteCells s.data.toList ++ M.toList.drop (0 + s.size)).toArray = encK s.data.toList := by
      rw [List.drop_of_length_le (by rw [Array.length_toList]; omega)]
      unfold encK Lib.byteCells
      simp
      exact fun _ _ => rfl
    rw [hY] at hcp
    have hgY := heap_setRow_same (w.alloc (.cells M 5)) w.heap.size M (encK s.data.toList) 5 (heap_alloc_new w _)
    have hB : Below w.heap.size w ((w.alloc (.cells M 5)).setRow w.heap.size (encK s.data.toList)) := ((Below.refl _ _).alloc (Nat.le_refl _) _).trans (below_setRow _ _ _ _ (by omega))
    have hUS := Lib.run_unsafeString_row (P := Tryd.prog) ((w.alloc (.cells M 5)).setRow w.heap.size (encK s.data.toList)) 57 3 9 5 Tryd.underlying57 c5w w.heap.size (encK s.data.toList).size (by unfold World.shape?; rw [hgY]) s.data.toList hne (by rw [encK_size]; exact Nat.le_refl _) (by rw [text_len]; omega)
      (fun j x hx => by rw [addr_add, cell_of_row _ _ _ _ _ _ hgY]; exact encK_get _ _ _ hx)
    rw [text_len] at hUS
    have hF : Hid (Below w.heap.size w (((w.alloc (.cells M 5)).setRow w.heap.size (encK s.data.toList)).freeze ⟨w.heap.size, 0, none⟩ s.size)) := Lib.below_freeze hB (p := ⟨w.heap.size, 0, none⟩) (Nat.le_refl _) _
    clear hY hMs hB hi hne hgY
    have i1 : ((s.size : Int) == 0) = false := by rw [beq_eq_false_iff_ne]; omega
    have i2 : (0 : Int) < (s.size : Int) := by omega
    generalize (w.alloc (.cells M 5)).setRow w.heap.size (encK s.data.toList) = W2 at *
    go_enter Tryd.func32, Tryd.ntmps32
    go_wp2
    go_ret
    exact ⟨rfl, hF⟩
set_option maxHeartbeats 800000 in
theorem sclone_any (s : ByteArray) (hn : s.size ≤ 140737488355000) (w : World) :
    Calls Tryd.prog 24 #[.string s] w fun e w' => e = .returned (.string s) ∧ Below w.heap.size w w' := by
  go_enter Tryd.func24, Tryd.ntmps24
  go_wp2_with fail
  refine (clone_any s hn _).mono ?_
  rintro e w1 ⟨rfl, hb1⟩
  have b1 : Hid (Below w.heap.size w w1) := hb1
  clear hb1
  go_wp2
  go_ret
  exact ⟨rfl, b1⟩
end Go.Proofs.YtaefnkaenhmekaaDoor
