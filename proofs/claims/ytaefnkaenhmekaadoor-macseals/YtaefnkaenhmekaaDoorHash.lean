/- A hash in memory: eight words, 64 bytes, a length; and what finishing makes of it: plain lists. -/
import Derived.Test.YtaefnkaenhmekaaDoorDig
import Derived.Deep.MidRow
namespace Go.Proofs.YtaefnkaenhmekaaDoor
open Go.RowKit
def encH (s : St) (tl : List UInt8) (n : Nat) : Array Value := ((encS s).toList ++ (tl.map encB ++ [Value.int .i64 (n : Int)])).toArray
theorem encH_size (s : St) (tl : List UInt8) (n : Nat) (h : tl.length = 64) : (encH s tl n).size = 73 := by
  unfold encH encS; simp [h]
theorem encH_len (s : St) (tl : List UInt8) (n : Nat) (h : tl.length = 64) : (encH s tl n)[72]? = some (.int .i64 (n : Int)) := by
  unfold encH encS
  rw [List.getElem?_toArray, List.getElem?_append_right (by simp), List.getElem?_append_right (by simp [h])]
  simp [h]
/-- cells are put into an array, one behind the other -/
def putAt (c : Array Value) (o : Nat) : List Value → Array Value
  | [] => c
  | v :: r => putAt (c.setIfInBounds o v) (o + 1) r
theorem heap_setCells_same (g : Nat) (t : TypeId) : ∀ (vs : List Value) (o : Nat) (w : World) (c : Array Value), w.heap[g]? = some (.cells c t (0, 0)) → (w.setCells g o vs).heap[g]? = some (.cells (putAt c o vs) t (0, 0))
  | [], _, _, _, h => h
  | v :: r, o, w, c, h => by
    rw [World.setCells, putAt]
    exact heap_setCells_same g t r (o + 1) _ _ (heap_setCell_same w g o c t v h)
theorem heap_setCells_other (g k : Nat) (hk : k ≠ g) : ∀ (vs : List Value) (o : Nat) (w : World), (w.setCells g o vs).heap[k]? = w.heap[k]?
  | [], _, _ => rfl
  | v :: r, o, w => by
    rw [World.setCells, heap_setCells_other g k hk r (o + 1) _, heap_setCell_other _ _ _ _ hk]
theorem below_setCells (B g : Nat) (hg : B ≤ g) : ∀ (vs : List Value) (o : Nat) (w : World), Below B w (w.setCells g o vs)
  | [], _, w => Below.refl _ _
  | v :: r, o, w => by
    rw [World.setCells]
    exact (((Below.refl B w).setCell (p := ⟨g, o, none⟩) hg v)).trans (below_setCells B g hg r (o + 1) _)
theorem putAt_mid (vs : List Value) : ∀ (a b c : List Value), b.length = vs.length → putAt (a ++ (b ++ c)).toArray a.length vs = (a ++ (vs ++ c)).toArray := by
  induction vs with
  | nil => intro a b c h; have : b = [] := List.length_eq_zero_iff.1 h; subst this; rfl
  | cons v r ih =>
    intro a b c h
    match b, h with
    | b0 :: b', h =>
      have e : ((a ++ (b0 :: b' ++ c)).toArray).setIfInBounds a.length v = ((a ++ [v]) ++ (b' ++ c)).toArray := by
        apply Array.ext'
        simp
      rw [putAt, e]
      have := ih (a ++ [v]) b' c (by simpa using h)
      rw [show (a ++ [v]).length = a.length + 1 from by simp] at this
      rw [this]; simp
theorem putAt_state (s s' : St) (tl : List UInt8) (n : Nat) : putAt (encH s tl n) 0 (encS s').toList = encH s' tl n := by
  have := putAt_mid (encS s').toList [] (encS s).toList (tl.map encB ++ [Value.int .i64 (n : Int)]) rfl
  simpa [encH] using this
theorem putAt_tail (s : St) (tl tl' : List UInt8) (n : Nat) (h : tl.length = tl'.length) : putAt (encH s tl n) 8 (tl'.map encB) = encH s tl' n := by
  have := putAt_mid (tl'.map encB) (encS s).toList (tl.map encB) [Value.int .i64 (n : Int)] (by simp [h])
  exact this
theorem set_tail (s : St) (tl : List UInt8) (n i : Nat) (x : UInt8) (hi : i < tl.length) : (encH s tl n).setIfInBounds (8 + i) (.int .u8 (x.toNat : Int)) = encH s (tl.set i x) n := by
  unfold encH
  apply Array.ext'
  rw [List.setIfInBounds_toArray]
  show ((encS s).toList ++ (tl.map encB ++ [Value.int .i64 (n : Int)])).set (8 + i) _ = (encS s).toList ++ ((tl.set i x).map encB ++ [Value.int .i64 (n : Int)])
  rw [List.set_append_right _ _ (by show 8 ≤ _; omega), show (8 + i) - (encS s).toList.length = i from by show 8 + i - 8 = i; omega, List.set_append_left _ _ (by simpa using hi), List.map_set]
  rfl
theorem set_len (s : St) (tl : List UInt8) (n m : Nat) (h : tl.length = 64) : (encH s tl n).setIfInBounds 72 (.int .i64 (m : Int)) = encH s tl m := by
  unfold encH
  apply Array.ext'
  rw [List.setIfInBounds_toArray]
  show ((encS s).toList ++ (tl.map encB ++ [Value.int .i64 (n : Int)])).set 72 _ = (encS s).toList ++ (tl.map encB ++ [Value.int .i64 (m : Int)])
  rw [List.set_append_right _ _ (by show 8 ≤ _; omega), show 72 - (encS s).toList.length = 64 from rfl, List.set_append_right _ _ (by simp [h])]
  simp [h]
theorem range_state {w : World} {g : Nat} {s : St} {tl : List UInt8} {n : Nat} (hg : w.heap[g]? = some (.cells (encH s tl n) 50 (0, 0))) : w.rangeAt g 0 (encS s).toList := fun j v hv => by
  rw [cell_of_row _ _ _ _ _ _ hg]
  unfold encH
  rw [List.getElem?_toArray, Nat.zero_add, List.getElem?_append_left (List.getElem?_eq_some_iff.1 hv).1]
  exact hv
theorem range_tail {w : World} {g : Nat} {s : St} {tl : List UInt8} {n : Nat} (hg : w.heap[g]? = some (.cells (encH s tl n) 50 (0, 0))) : w.rangeAt g 8 (tl.map encB) := fun j v hv => by
  rw [cell_of_row _ _ _ _ _ _ hg]
  unfold encH
  rw [List.getElem?_toArray, List.getElem?_append_right (by show 8 ≤ _; omega), show 8 + j - (encS s).toList.length = j from by show 8 + j - 8 = j; omega, List.getElem?_append_left (List.getElem?_eq_some_iff.1 hv).1]
  exact hv
theorem there_all {w : World} {g : Nat} {s : St} {tl : List UInt8} {n : Nat} (ht : tl.length = 64) (hg : w.heap[g]? = some (.cells (encH s tl n) 50 (0, 0))) (o m : Nat) (h : o + m ≤ 73) : w.there g o m := fun j hj =>
  ⟨by rw [cell_of_row _ _ _ _ _ _ hg, Array.getElem?_eq_getElem (by rw [encH_size _ _ _ ht]; omega)]; rfl, frozen_of_row _ _ _ _ _ hg⟩
/-- the padding's byte 128 and noughts behind what is there of a block -/
def padT (t : List UInt8) : List UInt8 := t ++ (128 :: List.replicate (63 - t.length) 0)
theorem padT_length (t : List UInt8) (h : t.length < 64) : (padT t).length = 64 := by unfold padT; simp; omega
/-- the number of bits as eight bytes -/
def lenB (n : Nat) (j : Nat) : UInt8 := UInt8.ofNat (8 * n / 2 ^ (8 * (7 - j)))
def lens (n : Nat) (k : Nat) : List UInt8 := (List.range k).map (lenB n)
theorem lens_length (n k : Nat) : (lens n k).length = k := by simp [lens]
theorem lens_succ (n k : Nat) : lens n (k + 1) = lens n k ++ [lenB n k] := by simp [lens, List.range_succ]
/-- the state behind the padding: t is what is there of a block, n the number of bytes -/
def finT (s : St) (t : List UInt8) (n : Nat) : St :=
  if 56 ≤ t.length then takeB (takeB s (padT t)) (List.replicate 56 0 ++ lens n 8) else takeB s ((padT t).take 56 ++ lens n 8)
/-- the tail while the padding is laid -/
def P1 (tl : List UInt8) (u i : Nat) : List UInt8 := tl.take u ++ (128 :: (List.replicate (i - u - 1) 0 ++ tl.drop i))
theorem P1_start (tl : List UInt8) (u : Nat) (h : u < tl.length) : tl.set u 128 = P1 tl u (u + 1) := by
  unfold P1
  rw [List.set_eq_take_append_cons_drop, if_pos h]
  simp
theorem P1_length (tl : List UInt8) (u i : Nat) (ht : tl.length = 64) (hu : u < i) (hi : i ≤ 64) : (P1 tl u i).length = 64 := by
  unfold P1; simp [ht]; omega
theorem P1_step (tl : List UInt8) (u i : Nat) (ht : tl.length = 64) (hu : u < i) (hi : i < 64) : (P1 tl u i).set i 0 = P1 tl u (i + 1) := by
  unfold P1
  have e : i + 1 - u - 1 = (i - u - 1) + 1 := by omega
  rw [e, List.replicate_succ', List.drop_eq_getElem_cons (by omega : i < tl.length)]
  rw [show (tl.take u ++ (128 :: (List.replicate (i - u - 1) 0 ++ tl[i] :: tl.drop (i + 1)))) = (tl.take u ++ (128 :: List.replicate (i - u - 1) 0)) ++ (tl[i] :: tl.drop (i + 1)) from by simp]
  rw [List.set_append_right _ _ (by simp; omega), show i - (tl.take u ++ ((128 : UInt8) :: List.replicate (i - u - 1) 0)).length = 0 from by simp; omega, List.set_cons_zero]
  simp
theorem P1_end (tl : List UInt8) (u : Nat) (ht : tl.length = 64) (hu : u < 64) : P1 tl u 64 = padT (tl.take u) := by
  unfold P1 padT
  rw [List.drop_of_length_le (by omega), List.length_take, Nat.min_eq_left (by omega), show 64 - u - 1 = 63 - u from by omega]
  simp
/-- the tail while the length is laid -/
def P2 (b : List UInt8) (n i : Nat) : List UInt8 := b.take 56 ++ (lens n i ++ b.drop (56 + i))
theorem P2_start (b : List UInt8) (n : Nat) : P2 b n 0 = b := by unfold P2; simp [lens]
theorem P2_length (b : List UInt8) (n i : Nat) (hb : b.length = 64) (hi : i ≤ 8) : (P2 b n i).length = 64 := by unfold P2; simp [lens_length, hb]; omega
theorem P2_step (b : List UInt8) (n i : Nat) (hb : b.length = 64) (hi : i < 8) : (P2 b n i).set (56 + i) (lenB n i) = P2 b n (i + 1) := by
  unfold P2
  rw [lens_succ, List.drop_eq_getElem_cons (by omega : 56 + i < b.length)]
  rw [← List.append_assoc, List.set_append_right _ _ (by simp [lens_length, hb]), show 56 + i - (b.take 56 ++ lens n i).length = 0 from by simp [lens_length, hb], List.set_cons_zero]
  simp [Nat.add_assoc]
theorem P2_end (b : List UInt8) (n : Nat) (hb : b.length = 64) : P2 b n 8 = b.take 56 ++ lens n 8 := by
  unfold P2; rw [List.drop_of_length_le (by omega)]; simp
theorem loadm_arm {P : Program} {ops : Array Oper} {rest : List Oper} {a : Act} {w : World} {Q : Exit → Act → World → Prop} {pos : String} {after : Array Edge} (dst : Nat) (ty : TypeId) (x : Operand)
    (b o : Nat) (cs : List Value) (n : Nat) (e : TypeId) (hc : w.rangeAt b o cs) (hu : P.underlying ty = some (.array n e)) (hi : (P.info? ty).map (·.size) = some cs.length) (hx : a.eval x = .pointer (some ⟨b, o, none⟩))
    (h : wpList P ops Q rest (a.put (some dst) (.agg cs.toArray)) w) : wpList P ops Q ({ dst := some dst, op := .load ty x, type := ty, pos := pos, after := after, guard := none } :: rest) a w :=
  wpList_load_mid rfl ty x rfl b o hx cs _ hc hu rfl hi h
theorem storem_arm {P : Program} {ops : Array Oper} {rest : List Oper} {a : Act} {w : World} {Q : Exit → Act → World → Prop} {pos : String} {after : Array Edge} {ty' : TypeId} (ty : TypeId) (x y : Operand)
    (b o : Nat) (cells : Array Value) (ht : w.there b o cells.size) (hi : (P.info? ty).map (·.size) = some cells.size) (h1 : cells.all (·.oneCell') = true)
    (hx : a.eval x = .pointer (some ⟨b, o, none⟩)) (hy : a.eval y = .agg cells)
    (h : wpList P ops Q rest (a.put none undef) (w.setCells b o cells.toList)) : wpList P ops Q ({ dst := none, op := .store ty x y, type := ty', pos := pos, after := after, guard := none } :: rest) a w :=
  wpList_store_mid rfl ty x y rfl b o cells hx hy ht hi h1 h
/-- a hash with these parts lies in block g -/
def HB (w : World) (g : Nat) (s : St) (tl : List UInt8) (n : Nat) : Prop := w.heap[g]? = some (.cells (encH s tl n) 50 (0, 0)) ∧ tl.length = 64
theorem HB.len {w : World} {g : Nat} {s : St} {tl : List UInt8} {n : Nat} (h : HB w g s tl n) : w.cell? ⟨g, 72, none⟩ = some (.int .i64 (n : Int)) := (cell_of_row _ _ _ _ _ _ h.1).trans (encH_len s tl n h.2)
theorem HB.some {w : World} {g : Nat} {s : St} {tl : List UInt8} {n : Nat} (h : HB w g s tl n) (i : Nat) (hi : i < 73) : ∃ v, w.cell? ⟨g, i, none⟩ = some v := by
  rw [cell_of_row _ _ _ _ _ _ h.1]; exact ⟨_, Array.getElem?_eq_getElem (by rw [encH_size _ _ _ h.2]; exact hi)⟩
theorem HB.free {w : World} {g : Nat} {s : St} {tl : List UInt8} {n : Nat} (h : HB w g s tl n) (i : Nat) : w.frozen? ⟨g, i, none⟩ = false := frozen_of_row _ _ _ _ _ h.1
theorem HB.setT {w : World} {g : Nat} {s : St} {tl : List UInt8} {n : Nat} (h : HB w g s tl n) (i : Nat) (hi : i < 64) (x : UInt8) : HB (w.setCell ⟨g, 8 + i, none⟩ (.int .u8 (x.toNat : Int))) g s (tl.set i x) n :=
  ⟨by rw [heap_setCell_same _ _ _ _ _ _ h.1, set_tail _ _ _ _ _ (by rw [h.2]; exact hi)], by simp [h.2]⟩
theorem HB.setN {w : World} {g : Nat} {s : St} {tl : List UInt8} {n : Nat} (h : HB w g s tl n) (m : Nat) : HB (w.setCell ⟨g, 72, none⟩ (.int .i64 (m : Int))) g s tl m :=
  ⟨by rw [heap_setCell_same _ _ _ _ _ _ h.1, set_len _ _ _ _ h.2], h.2⟩
theorem HB.setS {w : World} {g : Nat} {s : St} {tl : List UInt8} {n : Nat} (h : HB w g s tl n) (s' : St) : HB (w.setCells g 0 (encS s').toList) g s' tl n :=
  ⟨by rw [heap_setCells_same g 50 _ 0 w _ h.1, putAt_state], h.2⟩
theorem HB.setTl {w : World} {g : Nat} {s : St} {tl : List UInt8} {n : Nat} (h : HB w g s tl n) (tl' : List UInt8) (hl : tl'.length = 64) : HB (w.setCells g 8 (tl'.map encB)) g s tl' n :=
  ⟨by rw [heap_setCells_same g 50 _ 8 w _ h.1, putAt_tail _ _ _ _ (by rw [h.2, hl])], hl⟩
theorem HB.other {w w' : World} {g : Nat} {s : St} {tl : List UInt8} {n : Nat} (h : HB w g s tl n) (hw : w'.heap[g]? = w.heap[g]?) : HB w' g s tl n := ⟨by rw [hw]; exact h.1, h.2⟩
end Go.Proofs.YtaefnkaenhmekaaDoor
