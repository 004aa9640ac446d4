/- Times, plain: the program's units against the document's; one part of a time. -/
import Derived.Test.YtkicbmjjbnblfaaDoorUnitW
namespace Go.Proofs.YtkicbmjjbnblfaaDoor
open Go.RowKit
def unitLen (u : Nat) : Nat := if u = 4 then 2 else 1
theorem unitF_unfold (l : Bs) : unitF l 5 = if upL (l.take 2) = [77, 83] then 4 else if upL (l.take 1) = [83] then 3 else if upL (l.take 1) = [77] then 2 else if upL (l.take 1) = [72] then 1 else if upL (l.take 1) = [68] then 0 else -1 := by
  simp [unitF, unitNames]
theorem unit_of (l : Bs) : unitF l 5 = (match unitL l with | none => -1 | some (u, _) => (u : Int)) ∧ ∀ u r, unitL l = some (u, r) → u < 5 ∧ r = l.drop (unitLen u) ∧ unitLen u ≤ l.length := by
  rw [unitF_unfold]
  match l with
  | [] => simp [unitL, upL]
  | [c] =>
    unfold unitL
    simp only [upL, List.take_succ_cons, List.take_nil, List.map_cons, List.map_nil, List.cons.injEq, and_true]
    by_cases h1 : upC c = 68
    · simp [h1, unitLen]
    · by_cases h2 : upC c = 72
      · simp [h2, unitLen]
      · by_cases h3 : upC c = 83
        · simp [h3, unitLen]
        · by_cases h4 : upC c = 77
          · simp [h4, unitLen]
          · simp [h1, h2, h3, h4]
  | c :: d :: q =>
    unfold unitL
    simp only [upL, List.take_succ_cons, List.map_cons, List.map_nil, List.cons.injEq, and_true, List.take_zero, List.head?_cons, Option.map_some, Option.some.injEq, List.tail_cons]
    by_cases h1 : upC c = 68
    · simp [h1, unitLen]
    · by_cases h2 : upC c = 72
      · simp [h2, unitLen]
      · by_cases h3 : upC c = 83
        · simp [h3, unitLen]
        · by_cases h4 : upC c = 77
          · by_cases h5 : upC d = 83
            · simp [h4, h5, unitLen]
            · simp [h4, h5, unitLen]
          · simp [h1, h2, h3, h4]
theorem timeP_step {f lo n : Nat} {q : Bs} (hq : ∃ c r, q = c :: r ∧ isDig c = true) : timeP (f + 1) lo n q = (match unitL (cap10 0 q).2 with | none => none | some (u, r2) => if u < lo then none else timeP f (u + 1) (n + (cap10 0 q).1 * unitW u) r2) := by
  obtain ⟨c, r, rfl, hd⟩ := hq
  rw [timeP]
  simp only [if_pos hd]
  rfl
theorem timeP_end {f lo n : Nat} {q : Bs} (hq : ¬ ∃ c r, q = c :: r ∧ isDig c = true) : timeP (f + 1) lo n q = if lo ≠ 0 ∧ goesOn q = false then some (n, q) else none := by
  match q with
  | [] =>
    rw [timeP]
    by_cases h : lo = 0
    · simp [h]
    · simp [h, goesOn]
  | c :: r =>
    have hd : isDig c = false := by
      cases h : isDig c with
      | false => rfl
      | true => exact absurd ⟨c, r, rfl, h⟩ hq
    rw [timeP]
    simp only [hd, Bool.false_eq_true, if_false, goesOn, Bool.false_or]
    by_cases h : lo = 0
    · simp [h]
    · by_cases h2 : c = 95
      · simp [h2]
      · simp [h, h2]
/-- what lex.timeValue answers -/
def TvOut (l : Bs) (o : Option (Nat × Bs)) (v : Value) : Prop :=
  match o with
  | some (n, r) => v = .tuple #[.int .i64 (n : Int), .int .i64 ((l.length - r.length : Nat) : Int), .bool true]
  | none => ∃ n k, v = .tuple #[.int .i64 n, .int .i64 k, .bool false]
theorem index_mem (l : Bs) (c : UInt8) : (0 ≤ Lib.indexByte l c) ↔ c ∈ l := by
  induction l with
  | nil => simp [Lib.indexByte]
  | cons b l ih =>
    have hge := Lib.indexByte_ge l c
    unfold Lib.indexByte
    by_cases h : b = c
    · simp [h]
    · have h' : ¬ c = b := fun e => h e.symm
      simp only [beq_iff_eq, h, if_false, List.mem_cons, h', false_or]
      rw [← ih]
      split <;> omega
/-- one part of a time, by places -/
theorem part_facts (l : Bs) (k : Nat) (hk : k ≤ l.length) : ∃ len, k + len ≤ l.length ∧ (l.drop k).length - (pd 10 false 0 (l.drop k)).2.length = len ∧
    ((95 : UInt8) ∈ (l.drop k).take len → unitL (cap10 0 (l.drop k)).2 = none) ∧
    ((95 : UInt8) ∉ (l.drop k).take len → pd 10 false 0 (l.drop k) = cap10 0 (l.drop k) ∧ (cap10 0 (l.drop k)).2 = l.drop (k + len)) := by
  obtain ⟨j, hj, e⟩ := pd_suf 10 (l.drop k) false 0
  rw [List.length_drop] at hj
  have hz : (l.drop k).length - (pd 10 false 0 (l.drop k)).2.length = j := by rw [e]; simp only [List.length_drop]; omega
  refine ⟨j, by omega, hz, fun h => ?_, fun h => ?_⟩
  · obtain ⟨r, hr⟩ := pd_under (l.drop k) false 0 (by rw [hz]; exact h)
    rw [hr]
    rfl
  · have h1 := pd_cap (l.drop k) false 0 (by rw [hz]; exact h)
    exact ⟨h1, by rw [← h1, e, List.drop_drop]⟩
end Go.Proofs.YtkicbmjjbnblfaaDoor
