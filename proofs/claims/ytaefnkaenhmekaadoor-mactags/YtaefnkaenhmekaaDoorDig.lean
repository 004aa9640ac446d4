/- The digest's bytes: plain lists, and the array that is filled with them. -/
import Derived.Test.YtaefnkaenhmekaaDoorTake
namespace Go.Proofs.YtaefnkaenhmekaaDoor
open Go.RowKit
def lowB (x : BitVec 32) : UInt8 := UInt8.ofNat x.toNat
theorem wrap_u8_V (x : BitVec 32) : IntKind.u8.wrap (V x) = ((lowB x).toNat : Int) := by
  unfold V lowB
  simp [IntKind.wrap, IntKind.bits, IntKind.signed]
def dg (x : BitVec 32) : List UInt8 := [lowB (x >>> 24), lowB (x >>> 16), lowB (x >>> 8), lowB x]
def digB : List (BitVec 32) → List UInt8
  | [] => []
  | x :: r => dg x ++ digB r
/-- the digest of a state -/
def dig (s : St) : List UInt8 := digB s.list
theorem digB_length (l : List (BitVec 32)) : (digB l).length = 4 * l.length := by
  induction l with
  | nil => rfl
  | cons x r ih => simp [digB, dg, ih]; omega
theorem dig_length (s : St) : (dig s).length = 32 := by rw [dig, digB_length]; rfl
theorem digB_append (l r : List (BitVec 32)) : digB (l ++ r) = digB l ++ digB r := by
  induction l with
  | nil => rfl
  | cons x l ih => simp [digB, ih]
theorem digB_take (l : List (BitVec 32)) (k : Nat) (h : k < l.length) : digB (l.take (k + 1)) = digB (l.take k) ++ dg (at32 l k) := by
  rw [List.take_succ_eq_append_getElem h, digB_append]
  have : at32 l k = l[k] := by unfold at32; simp [List.getD_eq_getElem?_getD, List.getElem?_eq_getElem h]
  rw [this]; simp [digB]
def fillB (n : Nat) (l : List UInt8) : Array Value := (l.map encB ++ List.replicate (n - l.length) (Value.int .u8 0)).toArray
theorem fillB_size (n : Nat) (l : List UInt8) (h : l.length ≤ n) : (fillB n l).size = n := by unfold fillB; simp; omega
theorem fillB_set (n : Nat) (l : List UInt8) (x : UInt8) (h : l.length < n) : (fillB n l).setIfInBounds l.length (.int .u8 (x.toNat : Int)) = fillB n (l ++ [x]) := by
  unfold fillB
  obtain ⟨m, hm⟩ : ∃ m, n - l.length = m + 1 := ⟨n - l.length - 1, by omega⟩
  have h2 : n - (l ++ [x]).length = m := by simp; omega
  rw [hm, h2]
  apply Array.ext'
  simp only [List.setIfInBounds_toArray, List.map_append, List.map_cons, List.map_nil, List.append_assoc, List.replicate_succ]
  rw [List.set_append_right _ _ (by simp)]
  simp [encB]
theorem fillB_full (n : Nat) (l : List UInt8) (h : l.length = n) : fillB n l = (l.map encB).toArray := by
  unfold fillB; simp [h]
theorem encS_get (s : St) (k : Nat) (h : k < 8) : (encS s)[k]? = some (.int .u32 (V (at32 s.list k))) := by
  have : ∀ k : Fin 8, (encS s)[k.val]? = some (.int .u32 (V (at32 s.list k.val))) := by
    intro ⟨k, hk⟩
    match k, hk with
    | 0, _ => rfl
    | 1, _ => rfl
    | 2, _ => rfl
    | 3, _ => rfl
    | 4, _ => rfl
    | 5, _ => rfl
    | 6, _ => rfl
    | 7, _ => rfl
  exact this ⟨k, h⟩
/-- what stands in memory after k words -/
def DI (s : St) (w wr : World) (k : Nat) : Prop :=
  wr.heap[w.heap.size + 1]? = some (.cells (fillB 32 (digB (s.list.take k))) 61 (0, 0)) ∧ Below w.heap.size w wr
theorem take_len (s : St) (k : Nat) (h : k ≤ 8) : (digB (s.list.take k)).length = 4 * k := by
  rw [digB_length, List.length_take, show s.list.length = 8 from rfl, Nat.min_eq_left h]
theorem DI.free {s : St} {w wr : World} {k : Nat} (h : DI s w wr k) (i : Nat) : wr.frozen? ⟨w.heap.size + 1, i, none⟩ = false := frozen_of_row _ _ _ _ _ h.1
theorem DI.there {s : St} {w wr : World} {k : Nat} (h : DI s w wr k) (hk : k ≤ 8) (i : Nat) (hi : i < 32) : (wr.cell? ⟨w.heap.size + 1, i, none⟩).isSome = true := by
  rw [cell_of_row _ _ i _ _ _ h.1, Array.getElem?_eq_getElem (by rw [fillB_size _ _ (by rw [take_len _ _ hk]; omega)]; omega)]; rfl
theorem DI.step {s : St} {w wr : World} {k : Nat} (h : DI s w wr k) (hk : k < 8) :
    DI s w ((((wr.setCell ⟨w.heap.size + 1, 4 * k, none⟩ (.int .u8 ((lowB (at32 s.list k >>> 24)).toNat : Int))).setCell ⟨w.heap.size + 1, 4 * k + 1, none⟩ (.int .u8 ((lowB (at32 s.list k >>> 16)).toNat : Int))).setCell
      ⟨w.heap.size + 1, 4 * k + 2, none⟩ (.int .u8 ((lowB (at32 s.list k >>> 8)).toNat : Int))).setCell ⟨w.heap.size + 1, 4 * k + 3, none⟩ (.int .u8 ((lowB (at32 s.list k)).toNat : Int))) (k + 1) := by
  obtain ⟨h1, h2⟩ := h
  have hl := take_len s k (by omega)
  have e := digB_take s.list k (by show k < 8; exact hk)
  refine ⟨?_, (((h2.setCell (by simp) _).setCell (by simp) _).setCell (by simp) _).setCell (by simp) _⟩
  have s1 := heap_setCell_same wr _ (4 * k) _ _ (.int .u8 ((lowB (at32 s.list k >>> 24)).toNat : Int)) h1
  have f1 := fillB_set 32 (digB (s.list.take k)) (lowB (at32 s.list k >>> 24)) (by omega)
  rw [hl] at f1; rw [f1] at s1
  have s2 := heap_setCell_same _ _ (4 * k + 1) _ _ (.int .u8 ((lowB (at32 s.list k >>> 16)).toNat : Int)) s1
  have f2 := fillB_set 32 (digB (s.list.take k) ++ [lowB (at32 s.list k >>> 24)]) (lowB (at32 s.list k >>> 16)) (by simp; omega)
  rw [show (digB (s.list.take k) ++ [lowB (at32 s.list k >>> 24)]).length = 4 * k + 1 from by simp [hl]] at f2; rw [f2] at s2
  have s3 := heap_setCell_same _ _ (4 * k + 2) _ _ (.int .u8 ((lowB (at32 s.list k >>> 8)).toNat : Int)) s2
  have f3 := fillB_set 32 (digB (s.list.take k) ++ [lowB (at32 s.list k >>> 24)] ++ [lowB (at32 s.list k >>> 16)]) (lowB (at32 s.list k >>> 8)) (by simp; omega)
  rw [show (digB (s.list.take k) ++ [lowB (at32 s.list k >>> 24)] ++ [lowB (at32 s.list k >>> 16)]).length = 4 * k + 2 from by simp [hl]] at f3; rw [f3] at s3
  have s4 := heap_setCell_same _ _ (4 * k + 3) _ _ (.int .u8 ((lowB (at32 s.list k)).toNat : Int)) s3
  have f4 := fillB_set 32 (digB (s.list.take k) ++ [lowB (at32 s.list k >>> 24)] ++ [lowB (at32 s.list k >>> 16)] ++ [lowB (at32 s.list k >>> 8)]) (lowB (at32 s.list k)) (by simp; omega)
  rw [show (digB (s.list.take k) ++ [lowB (at32 s.list k >>> 24)] ++ [lowB (at32 s.list k >>> 16)] ++ [lowB (at32 s.list k >>> 8)]).length = 4 * k + 3 from by simp [hl]] at f4; rw [f4] at s4
  rw [s4, e]
  simp [dg]
theorem DI.start (s : St) (w : World) (o : Obj) (z : Array Value) (hz : z = fillB 32 []) : DI s w ((w.alloc o).alloc (.cells z 61)) 0 := by
  subst hz
  refine ⟨?_, (((Below.refl _ _).alloc (Nat.le_refl _) _).alloc (by simp) _)⟩
  rw [show w.heap.size + 1 = (w.alloc o).heap.size from by simp, heap_alloc_new]; rfl
theorem addr_add (g j : Nat) : (⟨g, 0, none⟩ : Addr).add j = ⟨g, j, none⟩ := by unfold Addr.add; split <;> simp_all
theorem DI.bytes {s : St} {w wr : World} (h : DI s w wr 8) (j : Nat) (hj : j < (dig s).length) : wr.cell? ((⟨w.heap.size + 1, 0, none⟩ : Addr).add j) = some (.int .u8 (((dig s)[j]).toNat : Int)) := by
  have h1 := h.1
  rw [show s.list.take 8 = s.list from rfl, show digB s.list = dig s from rfl, fillB_full _ _ (dig_length s)] at h1
  rw [addr_add, cell_of_row _ _ _ _ _ _ h1, List.getElem?_toArray, List.getElem?_map, List.getElem?_eq_getElem hj]
  rfl
end Go.Proofs.YtaefnkaenhmekaaDoor
