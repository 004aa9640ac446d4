/- The document's Step. -/
import Derived.Test.YthifgfhgkdjkfaaDoorEbW
import Derived.Test.YthifgfhgkdjkfaaDoorDbW
import Derived.Test.YthifgfhgkdjkfaaDoorDcX
import Derived.Test.YthifgfhgkdjkfaaDoorDdX
import Derived.Test.YthifgfhgkdjkfaaDoorDeX
import Derived.Test.YthifgfhgkdjkfaaDoorDfX
import Derived.Test.YthifgfhgkdjkfaaDoorDgX
namespace Go.Proofs.YthifgfhgkdjkfaaDoor
open Go.RowKit
/-- cells that fit, as a kind's own -/
theorem tm_of {k : Int} {c : List Int} (hk : k = 1 ∨ k = 2 ∨ k = 3) (hl : c.length = (fldK k).length) (hf : fitL (fldK k) c = true) : c = (tmL c).ls ∧ fitB 4 (tmL c).s = true := by
  have e : fldK k = fldK 1 := by rcases hk with rfl | rfl | rfl <;> rfl
  rw [e] at hl hf
  obtain ⟨x0, x1, x2, x3, x4, x5, rfl⟩ := six_of (c := c) hl
  simp [fitL, fldK] at hf
  obtain ⟨h0, h1, h2, h3, h4, h5⟩ := hf
  refine ⟨?_, h4⟩
  rcases fit_one h0 with rfl | rfl <;> rcases fit_one h2 with rfl | rfl <;> rcases fit_one h5 with rfl | rfl <;> rfl
theorem cn_of {k : Int} {c : List Int} (hk : k = 4 ∨ k = 5) (hl : c.length = (fldK k).length) (hf : fitL (fldK k) c = true) : c = (cnL c).ls ∧ (-32768 ≤ (cnL c).v ∧ (cnL c).v ≤ 32767) := by
  have e : fldK k = fldK 4 := by rcases hk with rfl | rfl <;> rfl
  rw [e] at hl hf
  obtain ⟨x0, x1, x2, x3, x4, x5, rfl⟩ := six_of (c := c) hl
  simp [fitL, fldK] at hf
  obtain ⟨h0, h1, h2, h3, h4, h5⟩ := hf
  refine ⟨?_, int_fit h4⟩
  rcases fit_one h0 with rfl | rfl <;> rcases fit_one h1 with rfl | rfl <;> rcases fit_one h3 with rfl | rfl <;> rcases fit_one h5 with rfl | rfl <;> rfl
theorem cd_of {c : List Int} (hl : c.length = (fldK 10).length) (hf : fitL (fldK 10) c = true) : c = (cdL c).ls ∧ fitB 3 (cdL c).v = true := by
  obtain ⟨x0, x1, x2, x3, x4, x5, rfl⟩ := six_of (c := c) hl
  simp [fitL, fldK] at hf
  obtain ⟨h0, h1, h2, h3, h4, h5⟩ := hf
  refine ⟨?_, h3⟩
  rcases fit_one h0 with rfl | rfl <;> rcases fit_one h1 with rfl | rfl <;> rcases fit_one h2 with rfl | rfl <;> rcases fit_one h4 with rfl | rfl <;> rfl
theorem tr_of {k : Int} {c : List Int} (hk : k = 6 ∨ k = 7 ∨ k = 8 ∨ k = 9) (hl : c.length = (fldK k).length) (hf : fitL (fldK k) c = true) : ∃ a b d, c = [flagN a, flagN b, flagN d] ∧ trL c = ⟨a, b, d⟩ := by
  have hl3 : c.length = 3 := by rw [hl]; rcases hk with rfl | rfl | rfl | rfl <;> rfl
  obtain ⟨x0, x1, x2, rfl⟩ := three_of hl3
  have h : fitB 1 x0 = true ∧ fitB 1 x1 = true ∧ fitB 1 x2 = true := by rcases hk with rfl | rfl | rfl | rfl <;> simpa [fitL, fldK] using hf
  obtain ⟨h0, h1, h2⟩ := h
  refine ⟨x0 == 1, x1 == 1, x2 == 1, ?_, rfl⟩
  rcases fit_one h0 with rfl | rfl <;> rcases fit_one h1 with rfl | rfl <;> rcases fit_one h2 with rfl | rfl <;> rfl
end Go.Proofs.YthifgfhgkdjkfaaDoor
