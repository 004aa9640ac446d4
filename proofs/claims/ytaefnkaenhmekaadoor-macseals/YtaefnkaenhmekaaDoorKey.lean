/- A tag's key as plain lists, and its array in memory. -/
import Derived.Test.YtaefnkaenhmekaaDoorAdd
import Derived.Lib.BufferWrite
namespace Go.Proofs.YtaefnkaenhmekaaDoor
open Go.RowKit
/-- a key that has no room is its digest -/
def keyL (k : List UInt8) : List UInt8 := if 64 < k.length then shaB k else k
def fitL (k : List UInt8) : List UInt8 := keyL k ++ List.replicate (64 - (keyL k).length) 0
def maskL (m : UInt8) (f : List UInt8) : List UInt8 := f.map (· ^^^ m)
/-- the tag of a message under a key -/
def tagL (k m : List UInt8) : List UInt8 := shaB (maskL 92 (fitL k) ++ shaB (maskL 54 (fitL k) ++ m))
theorem keyL_length (k : List UInt8) : (keyL k).length ≤ 64 := by
  unfold keyL
  by_cases h : 64 < k.length
  · rw [if_pos h, shaB_length]; omega
  · rw [if_neg h]; omega
theorem fitL_length (k : List UInt8) : (fitL k).length = 64 := by
  unfold fitL
  have := keyL_length k
  rw [List.length_append, List.length_replicate]; omega
theorem maskL_length (m : UInt8) (f : List UInt8) : (maskL m f).length = f.length := by unfold maskL; rw [List.length_map]
theorem tagL_length (k m : List UInt8) : (tagL k m).length = 32 := shaB_length _
def encK (f : List UInt8) : Array Value := (f.map encB).toArray
theorem encK_size (f : List UInt8) : (encK f).size = f.length := by simp [encK]
theorem encK_one (f : List UInt8) : (encK f).all (·.oneCell') = true := by simp [encK, encB, Value.oneCell']
theorem fillB_fit (k : List UInt8) : fillB 64 (keyL k) = encK (fitL k) := by
  unfold fillB encK fitL
  rw [List.map_append, List.map_replicate]
  rfl
theorem fillB_lay (l : List UInt8) (n : Nat) : ((fillB n []).toList.take 0 ++ Lib.byteCells l ++ (fillB n []).toList.drop (0 + l.length)).toArray = fillB n l := by
  unfold fillB Lib.byteCells
  simp
  exact fun _ _ => rfl
/-- the array, its first k bytes masked -/
def mixL (m : UInt8) (f : List UInt8) (k : Nat) : List UInt8 := maskL m (f.take k) ++ f.drop k
theorem mixL_zero (m : UInt8) (f : List UInt8) : mixL m f 0 = f := by simp [mixL, maskL]
theorem mixL_all (m : UInt8) (f : List UInt8) (k : Nat) (h : f.length ≤ k) : mixL m f k = maskL m f := by simp [mixL, List.take_of_length_le h, List.drop_of_length_le h]
theorem mixL_length (m : UInt8) (f : List UInt8) (k : Nat) : (mixL m f k).length = f.length := by simp [mixL, maskL]; omega
theorem mixL_get (m : UInt8) (f : List UInt8) (k : Nat) (h : k < f.length) : (mixL m f k)[k]? = some f[k] := by
  unfold mixL
  rw [List.getElem?_append_right (by rw [maskL_length, List.length_take]; omega), maskL_length, List.length_take, List.getElem?_drop]
  rw [show k + (k - min k f.length) = k from by omega, List.getElem?_eq_getElem h]
theorem mixL_set (m : UInt8) (f : List UInt8) (k : Nat) (h : k < f.length) : (mixL m f k).set k (f[k] ^^^ m) = mixL m f (k + 1) := by
  unfold mixL
  have hl : (maskL m (f.take k)).length = k := by rw [maskL_length, List.length_take]; omega
  rw [List.set_append_right _ _ (by omega), hl, Nat.sub_self, List.drop_eq_getElem_cons h, List.set_cons_zero, List.take_succ_eq_append_getElem h]
  unfold maskL
  rw [List.map_append, List.append_assoc]
  rfl
theorem xor8 (x y : UInt8) : bits .xor .u8 (x.toNat : Int) (y.toNat : Int) = ((x ^^^ y).toNat : Int) := by
  have h : ∀ z : UInt8, BitVec.ofInt 8 (z.toNat : Int) = z.toBitVec := fun z => by rw [BitVec.ofInt_natCast]; show BitVec.ofNat 8 z.toBitVec.toNat = _; rw [BitVec.ofNat_toNat, BitVec.setWidth_eq]
  show IntKind.u8.wrap ((BitVec.ofInt 8 (x.toNat : Int) ^^^ BitVec.ofInt 8 (y.toNat : Int)).toNat : Int) = _
  rw [h, h]
  have e : (x.toBitVec ^^^ y.toBitVec).toNat = (x ^^^ y).toNat := rfl
  rw [e]
  have := (x ^^^ y).toNat_lt
  generalize (x ^^^ y).toNat = n at *
  simp [IntKind.wrap, IntKind.bits, IntKind.signed]
  omega
def MI (m : UInt8) (f : List UInt8) (w wr : World) (k : Nat) : Prop :=
  wr.heap[w.heap.size]? = some (.cells (encK (mixL m f k)) 46 (0, 0)) ∧ Below w.heap.size w wr
theorem MI.free {m : UInt8} {f : List UInt8} {w wr : World} {k : Nat} (h : MI m f w wr k) (i : Nat) : wr.frozen? ⟨w.heap.size, i, none⟩ = false := frozen_of_row _ _ _ _ _ h.1
theorem encK_get (f : List UInt8) (k : Nat) (x : UInt8) (h : f[k]? = some x) : (encK f)[k]? = some (.int .u8 (x.toNat : Int)) := by
  unfold encK
  rw [List.getElem?_toArray, List.getElem?_map, h]; rfl
theorem MI.cell {m : UInt8} {f : List UInt8} {w wr : World} {k : Nat} (h : MI m f w wr k) (hk : k < f.length) : wr.cell? ⟨w.heap.size, k, none⟩ = some (.int .u8 (f[k].toNat : Int)) := by
  rw [cell_of_row _ _ _ _ _ _ h.1]
  exact encK_get _ _ _ (mixL_get m f k hk)
theorem MI.step {m : UInt8} {f : List UInt8} {w wr : World} {k : Nat} (h : MI m f w wr k) (hk : k < f.length) : MI m f w (wr.setCell ⟨w.heap.size, k, none⟩ (.int .u8 ((f[k] ^^^ m).toNat : Int))) (k + 1) := by
  obtain ⟨h1, h2⟩ := h
  refine ⟨?_, h2.setCell (by simp) _⟩
  rw [heap_setCell_same wr _ k _ _ _ h1, ← mixL_set m f k hk]
  congr 2
  unfold encK
  simp [encB, List.map_set]
theorem MI.start (m : UInt8) (f : List UInt8) (w : World) : MI m f w (w.alloc (.cells (encK f) 46)) 0 := by
  refine ⟨?_, (Below.refl _ _).alloc (Nat.le_refl _) _⟩
  rw [heap_alloc_new, mixL_zero]
theorem MI.bytes {m : UInt8} {f : List UInt8} {w wr : World} {k : Nat} (h : MI m f w wr k) (hf : f.length ≤ k) (j : Nat) (hj : j < (maskL m f).length) : wr.cell? ((⟨w.heap.size, 0, none⟩ : Addr).add j) = some (.int .u8 (((maskL m f)[j]).toNat : Int)) := by
  have h1 := h.1
  rw [mixL_all _ _ _ hf] at h1
  rw [addr_add, cell_of_row _ _ _ _ _ _ h1]
  exact encK_get _ _ _ (List.getElem?_eq_getElem hj)
/-- what a copy into the key's array leaves -/
theorem fit_copy {P : Program} (w W : World) (dT sT ty elem : TypeId) (t : ByteArray) (l : List UInt8) (hl : t.data.toList = l) (ht : t.size ≤ 64) (hu : P.underlying dT = some (.slice elem)) (hs : (P.info? elem).map (·.size) = some 1) (hb : Below w.heap.size w W)
    (h0 : W.heap[w.heap.size]? = some (.cells (fillB 64 []) 46 (0, 0))) (h1 : W.heap[w.heap.size + 1]? = some (.cells (fillB 64 []) 46 (0, 0))) :
    ∃ W2, (Builtin.copy_ #[dT, sT] ty #[.slice (some ⟨w.heap.size + 1, 0, none⟩) 64 64, .string t]).run P W = .ok (goInt t.size) W2 ∧ W2.heap[w.heap.size]? = some (.cells (fillB 64 []) 46 (0, 0)) ∧ W2.heap[w.heap.size + 1]? = some (.cells (fillB 64 l) 46 (0, 0)) ∧ Below w.heap.size w W2 := by
  have hlen : l.length = t.size := by rw [← hl, Array.length_toList]; rfl
  have h := Lib.run_copy_row_string (P := P) W dT sT ty elem (w.heap.size + 1) 0 64 64 t (fillB 64 []) 46 hu hs h1 ht (by rw [fillB_size _ _ (by simp)]; omega)
  rw [hl, ← hlen, fillB_lay l 64] at h
  rw [← hlen]
  refine ⟨_, h, ?_, heap_setRow_same _ _ _ _ _ h1, hb.trans (below_setRow _ _ _ _ (by omega))⟩
  rw [setRow_other _ _ _ _ (by omega)]; exact h0
end Go.Proofs.YtaefnkaenhmekaaDoor
