/- Plain facts on the law LexNumbers' text. -/
import Derived.Test.YtfcnbiikjopajaaDoorDigL
namespace Go.Proofs.YtfcnbiikjopajaaDoor
open Go.RowKit
/-- the text behind a round -/
def numsAt (n : Nat) : Nat → Bs
  | 0 => []
  | 1 => blanks [repP 10 n false, [50, 35] ++ repP 2 n false, [56, 35] ++ repP 8 n false, [49, 54, 35] ++ repP 16 n false, [68, 73, 78, 84, 35] ++ repP 10 n false]
  | _ => blanks (numPieces n)
theorem numsAt_len (n k : Nat) : (numsAt n k).length ≤ 2000 := by
  have h := fun b p => repP_len b n p
  match k with
  | 0 => simp [numsAt]
  | 1 =>
    simp only [numsAt, blanks, List.length_append, List.length_cons, List.length_nil]
    have := h 10 false; have := h 2 false; have := h 8 false; have := h 16 false
    omega
  | k + 2 =>
    simp only [numsAt, numPieces, blanks, List.length_append, List.length_cons, List.length_nil]
    have := h 10 false; have := h 2 false; have := h 8 false; have := h 16 false; have := h 10 true; have := h 2 true; have := h 8 true; have := h 16 true
    omega
theorem numsAt_step (n k : Nat) (p : Bool) (hk : (k = 0 ∧ p = false) ∨ (k = 1 ∧ p = true)) : numsAt n k ++ (((((((((repP 10 n p ++ [32, 50, 35]) ++ repP 2 n p) ++ [32, 56, 35]) ++ repP 8 n p) ++ [32, 49, 54, 35]) ++ repP 16 n p) ++ [32, 68, 73, 78, 84, 35]) ++ repP 10 n p) ++ [32]) = numsAt n (k + 1) := by
  rcases hk with ⟨rfl, rfl⟩ | ⟨rfl, rfl⟩
  · simp only [numsAt, blanks, List.append_assoc, List.nil_append, List.cons_append]
  · simp only [numsAt, numPieces, blanks, List.append_assoc, List.nil_append, List.cons_append]
/-- the ten pieces put together -/
theorem sums (l0 a b c d : Bs) (h0 : l0.length ≤ 2000) (ha : a.length ≤ 80) (hb : b.length ≤ 80) (hc : c.length ≤ 80) (hd : d.length ≤ 80) :
    ∃ t1 t2 t3 t4 t5 t6 t7 t8 t9 t10 : ByteArray, Op.stringOp .add ⟨a.toArray⟩ ⟨#[32, 50, 35]⟩ = pure (.string t1) ∧ Op.stringOp .add t1 ⟨b.toArray⟩ = pure (.string t2) ∧ Op.stringOp .add t2 ⟨#[32, 56, 35]⟩ = pure (.string t3) ∧ Op.stringOp .add t3 ⟨c.toArray⟩ = pure (.string t4) ∧ Op.stringOp .add t4 ⟨#[32, 49, 54, 35]⟩ = pure (.string t5) ∧ Op.stringOp .add t5 ⟨d.toArray⟩ = pure (.string t6) ∧ Op.stringOp .add t6 ⟨#[32, 68, 73, 78, 84, 35]⟩ = pure (.string t7) ∧ Op.stringOp .add t7 ⟨a.toArray⟩ = pure (.string t8) ∧ Op.stringOp .add t8 ⟨#[32]⟩ = pure (.string t9) ∧ Op.stringOp .add ⟨l0.toArray⟩ t9 = pure (.string t10) ∧
      t10 = ⟨(l0 ++ (((((((((a ++ [32, 50, 35]) ++ b) ++ [32, 56, 35]) ++ c) ++ [32, 49, 54, 35]) ++ d) ++ [32, 68, 73, 78, 84, 35]) ++ a) ++ [32])).toArray⟩ := by
  have st : ∀ (x y : Bs), x.length + y.length ≤ 100000 → Op.stringOp .add ⟨x.toArray⟩ ⟨y.toArray⟩ = pure (.string ⟨(x ++ y).toArray⟩) := fun x y h => by
    rw [str_add _ _ (by rw [list_size, list_size]; omega), app_text]
  refine ⟨_, _, _, _, _, _, _, _, _, _, st a [32, 50, 35] ?_, st _ _ ?_, st _ [32, 56, 35] ?_, st _ _ ?_, st _ [32, 49, 54, 35] ?_, st _ _ ?_, st _ [32, 68, 73, 78, 84, 35] ?_, st _ _ ?_, st _ [32] ?_, st _ _ ?_, rfl⟩
  all_goals simp only [List.length_append, List.length_cons, List.length_nil]; omega
theorem digL_in (n : Nat) (hn : n < 2147483648) (b : Nat) (h2 : 2 ≤ b) (h16 : b ≤ 16) (z : Int) (hz : z = (b : Int)) (p : Bool) (B : Nat) (W1 W : World) (hb : Below B W1 W) (hB : B ≤ W.heap.size) : Calls Tryd.prog 21 #[.int .i64 (n : Int), .int .i64 z, .bool p] W fun e w' => e = .returned (.string ⟨(repP b n p).toArray⟩) ∧ Below B W1 w' := by
  subst hz
  refine (digL_any n b h2 h16 hn p W).mono ?_
  rintro e w' ⟨q1, q2⟩
  exact ⟨q1, hb.trans (q2.mono hB)⟩
theorem nums_at {n : Nat} {ps : List (Tk × Nat)} (h : ps.map (·.1) = numToks n ++ [endT]) : ps.length = 11 ∧ ∀ i (hi : i < ps.length), i < 10 → (ps[i]'hi).1 = numT n (if i % 5 = 4 then 3 else 0) := by
  have hl : ps.length = 11 := by
    have := congrArg List.length h
    rw [List.length_map] at this
    exact this
  refine ⟨hl, fun i hi h10 => ?_⟩
  have e : (ps.map (·.1))[i]? = some (ps[i]'hi).1 := by rw [List.getElem?_map, List.getElem?_eq_getElem hi]; rfl
  rw [h] at e
  have k : ∀ i : Fin 10, (numToks n ++ [endT])[i.val]? = some (numT n (if i.val % 5 = 4 then 3 else 0)) := by
    intro i
    match i with
    | 0 => rfl | 1 => rfl | 2 => rfl | 3 => rfl | 4 => rfl | 5 => rfl | 6 => rfl | 7 => rfl | 8 => rfl | 9 => rfl
  have k := k ⟨i, h10⟩
  simp only [] at k
  rw [k] at e
  exact (Option.some.inj e).symm
end Go.Proofs.YtfcnbiikjopajaaDoor
