/- What Step answers, plainly. -/
import Derived.Test.YthifgfhgkdjkfaaDoorCaP
namespace Go.Proofs.YthifgfhgkdjkfaaDoor
def tmL (c : List Int) : Tm := ⟨c.getD 0 0 == 1, c.getD 1 0, c.getD 2 0 == 1, c.getD 3 0, c.getD 4 0, c.getD 5 0 == 1⟩
def cnL (c : List Int) : Cn := ⟨c.getD 0 0 == 1, c.getD 1 0 == 1, c.getD 2 0, c.getD 3 0 == 1, c.getD 4 0, c.getD 5 0 == 1⟩
def trL (c : List Int) : Tr := ⟨c.getD 0 0 == 1, c.getD 1 0 == 1, c.getD 2 0 == 1⟩
def cdL (c : List Int) : Cd := ⟨c.getD 0 0 == 1, c.getD 1 0 == 1, c.getD 2 0 == 1, c.getD 3 0, c.getD 4 0 == 1, c.getD 5 0⟩
def stepL (k : Int) (c : List Int) (now : Int) : List Int :=
  if k = 1 then (tonT now (tmL c)).ls else if k = 2 then (tofT now (tmL c)).ls else if k = 3 then (tpT now (tmL c)).ls
  else if k = 4 then (ctuT (cnL c)).ls else if k = 5 then (ctdT (cnL c)).ls
  else if k = 6 then (rT (trL c)).ls else if k = 7 then (fT (trL c)).ls else if k = 8 then (srT (trL c)).ls else if k = 9 then (rsT (trL c)).ls
  else (cdT (cdL c)).ls
/-- why Step refuses, or 0 -/
def stepE (k : Int) (c : List Int) (now : Int) : Int := if kindOk k then mayP (fldK k) c now else 92
theorem may_zero {fl : List (Int × Bool)} {c : List Int} {now : Int} : mayP fl c now = 0 ↔ c.length = fl.length ∧ fitL fl c = true ∧ nowOk now = true := by
  unfold mayP
  by_cases h1 : c.length = fl.length
  · rw [if_pos h1]
    cases fitL fl c
    · simp
    · cases nowOk now <;> simp [h1]
  · rw [if_neg h1]
    simp [h1]
theorem stepE_zero {k : Int} {c : List Int} {now : Int} : stepE k c now = 0 ↔ (1 ≤ k ∧ k ≤ 10) ∧ c.length = (fldK k).length ∧ fitL (fldK k) c = true ∧ nowOk now = true := by
  unfold stepE
  cases h : kindOk k
  · simp only [Bool.false_eq_true, if_false]
    constructor
    · intro h2; cases h2
    · intro h2; rw [(kindOk_iff k).2 h2.1] at h; cases h
  · simp only [if_true]
    rw [may_zero]
    constructor
    · intro h2; exact ⟨(kindOk_iff k).1 h, h2⟩
    · intro h2; exact h2.2
theorem now_fit {now : Int} (h : nowOk now = true) : fitB 4 now = true := by
  unfold nowOk at h
  rw [Bool.and_eq_true] at h
  have h1 := of_decide_eq_true h.1
  have h2 := of_decide_eq_true h.2
  rw [fit_span]
  simp [tyB]
  omega
theorem int_fit {x : Int} (h : fitB 2 x = true) : -32768 ≤ x ∧ x ≤ 32767 := by
  rw [fit_span] at h
  simp [tyB] at h
  omega
theorem six_of {c : List Int} (h : c.length = 6) : ∃ x0 x1 x2 x3 x4 x5, c = [x0, x1, x2, x3, x4, x5] := by
  match c, h with
  | [x0, x1, x2, x3, x4, x5], _ => exact ⟨x0, x1, x2, x3, x4, x5, rfl⟩
theorem three_of {c : List Int} (h : c.length = 3) : ∃ x0 x1 x2, c = [x0, x1, x2] := by
  match c, h with
  | [x0, x1, x2], _ => exact ⟨x0, x1, x2, rfl⟩
end Go.Proofs.YthifgfhgkdjkfaaDoor
