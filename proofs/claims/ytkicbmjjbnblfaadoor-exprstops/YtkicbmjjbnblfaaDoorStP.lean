/- A token behind an expression, plain: the five that end it. -/
import Derived.Test.YtkicbmjjbnblfaaDoorBkP
import Derived.Test.YtkicbmjjbnblfaaDoorPsW
namespace Go.Proofs.YtkicbmjjbnblfaaDoor
/-- the five tokens that are put behind -/
def five5 : List Tv := [⟨3, ⟨#[59]⟩, 0, 0, 0⟩, ⟨1, ⟨#[84, 72, 69, 78]⟩, 0, 0, 0⟩, ⟨3, ⟨#[41]⟩, 0, 0, 0⟩, ⟨2, ⟨#[]⟩, 5, 0, 0⟩, ⟨4, ⟨#[]⟩, 0, 0, 0⟩]
theorem opIn_big (m : Nat) (h : 7 ≤ m) (t : Tk) : opIn m t = none := by
  unfold opIn
  have : rowOps m = [] := by
    match m, h with
    | m + 7, _ => rfl
  rw [this]
  rfl
theorem five_stops : ∀ y ∈ five5, stops [tkV y] := by
  intro y hy t q e
  injection e with e1 e2
  subst e1
  have hop : ∀ y ∈ five5, ∀ m, m < 7 → opIn m (tkV y) = none := by decide
  have hso : ∀ y ∈ five5, isSign [91] (tkV y) = false ∧ isSign [46] (tkV y) = false := by decide
  refine ⟨fun m => ?_, hso y hy⟩
  rcases Nat.lt_or_ge m 7 with h | h
  · exact hop y hy m h
  · exact opIn_big m h _
theorem take_back {l : List Tv} {x : List Pt} {r : List Tk} (h : parse (lst l 0) = .ok (x, r)) (y : Tv) (hy : y ∈ five5) : r.length ≤ l.length ∧ parse (lst (l.take (l.length - r.length) ++ [y]) 0) = .ok (x, [tkV y]) := by
  obtain ⟨p, e, h2⟩ := parse_stops h (five_stops y hy)
  have hl := congrArg List.length e
  rw [lst_len, List.length_append] at hl
  have hp : p = (l.take (l.length - r.length)).map tkV := by
    have := congrArg (List.take p.length) e
    rw [List.take_left'] at this
    · rw [← this]
      unfold lst
      rw [List.drop_zero, ← List.map_take]
      congr 2
      omega
    · rfl
  refine ⟨by omega, ?_⟩
  unfold lst
  rw [List.drop_zero, List.map_append, ← hp]
  exact h2
end Go.Proofs.YtkicbmjjbnblfaaDoor
