/- Reading items one by one: plain facts. -/
import Derived.Test.YtmbgcpmapaedcaaDoorWiCloneW
namespace Go.Proofs.YtmbgcpmapaedcaaDoor.Wi
open Go.RowKit
def itC (x : It) : List Value := [.bool x.t, .int .i64 x.n, .string x.s]
def itsC : List It → List Value
  | [] => []
  | x :: l => itC x ++ itsC l
theorem itsC_append (a b : List It) : itsC (a ++ b) = itsC a ++ itsC b := by
  induction a with
  | nil => rfl
  | cons x a ih => rw [List.cons_append, itsC, itsC, ih, List.append_assoc]
theorem itsC_length (l : List It) : (itsC l).length = l.length * 3 := by
  induction l with
  | nil => rfl
  | cons x l ih => rw [itsC, List.length_append, ih, List.length_cons]; show 3 + _ = _; omega
theorem itsC_get (l : List It) : ∀ (i j : Nat) (h : i < l.length), j < 3 → (itsC l)[i * 3 + j]? = (itC l[i])[j]? := by
  induction l with
  | nil => intro i j h; exact absurd h (Nat.not_lt_zero _)
  | cons x l ih =>
    intro i j h hj
    match i with
    | 0 => rw [itsC, List.getElem?_append_left (by show 0 * 3 + j < 3; omega), Nat.zero_mul, Nat.zero_add]; rfl
    | i + 1 =>
      rw [itsC, List.getElem?_append_right (by show 3 ≤ _; omega)]
      show (itsC l)[(i + 1) * 3 + j - 3]? = (itC (l[i]'(by simpa using h)))[j]?
      rw [show (i + 1) * 3 + j - 3 = i * 3 + j from by omega]
      exact ih i j (by simpa using h) hj
/-- what has been read ahead of it -/
def rdsC (l : List It) : Except (Nat × Int) (List It × List UInt8) → Except (Nat × Int) (List It × List UInt8)
  | .error e => .error e
  | .ok (l', r') => .ok (l ++ l', r')
theorem rdsC_ok (l : List It) (k : Nat) (r r' : List UInt8) (x : It) (h : rd r = .ok (x, r')) : rdsC l (rds (k + 1) r) = rdsC (l ++ [x]) (rds k r') := by
  rw [rds, h]
  simp only []
  cases rds k r' with
  | error e => rfl
  | ok q => obtain ⟨a, b⟩ := q; simp [rdsC]
theorem rdsC_err (l : List It) (k : Nat) (r : List UInt8) (e : Int) (h : rd r = .error e) : rdsC l (rds (k + 1) r) = .error (r.length, e) := by
  rw [rds, h]; rfl
theorem rdsC_nil (q : Except (Nat × Int) (List It × List UInt8)) : rdsC [] q = q := by
  cases q with
  | error e => rfl
  | ok q => rfl
theorem oneB_length (x : It) : (oneB x).length = ib x := by
  obtain ⟨t, n, s⟩ := x
  cases t with
  | true => show (36 :: (two s.size ++ s.data.toList)).length = 3 + s.size; rw [List.length_cons, List.length_append, two_length, text_len]; omega
  | false => rfl
/-- the number of bytes that a list tells, the fault, in the four ways that decoding ends -/
theorem decB_long (b : List UInt8) (h : 65536 < b.length) : decB b = ([], 0, 2) := by unfold decB; rw [if_pos h]
theorem decB_short (b : List UInt8) (h1 : ¬ 65536 < b.length) (h : b.length < 2) : decB b = ([], 0, 30) := by unfold decB; rw [if_neg h1, if_pos h]
theorem decB_many (b : List UInt8) (h1 : ¬ 65536 < b.length) (h2 : ¬ b.length < 2) (h : 1000 < manyB b) : decB b = ([], 0, 2) := by unfold decB; rw [if_neg h1, if_neg h2, if_pos h]
theorem decB_err (b : List UInt8) (h1 : ¬ 65536 < b.length) (h2 : ¬ b.length < 2) (h3 : ¬ 1000 < manyB b) (r : Nat) (e : Int) (h : rds (manyB b) (b.drop 2) = .error (r, e)) : decB b = ([], b.length - r, e) := by
  unfold decB; rw [if_neg h1, if_neg h2, if_neg h3, h]
theorem decB_more (b : List UInt8) (h1 : ¬ 65536 < b.length) (h2 : ¬ b.length < 2) (h3 : ¬ 1000 < manyB b) (l : List It) (r : List UInt8) (h : rds (manyB b) (b.drop 2) = .ok (l, r)) (hr : r ≠ []) : decB b = ([], b.length - r.length, 31) := by
  unfold decB; rw [if_neg h1, if_neg h2, if_neg h3, h]; simp only []; rw [if_neg hr]
theorem decB_ok (b : List UInt8) (h1 : ¬ 65536 < b.length) (h2 : ¬ b.length < 2) (h3 : ¬ 1000 < manyB b) (l : List It) (h : rds (manyB b) (b.drop 2) = .ok (l, [])) : decB b = (l, 0, 0) := by
  unfold decB; rw [if_neg h1, if_neg h2, if_neg h3, h]; rfl
end Go.Proofs.YtmbgcpmapaedcaaDoor.Wi
