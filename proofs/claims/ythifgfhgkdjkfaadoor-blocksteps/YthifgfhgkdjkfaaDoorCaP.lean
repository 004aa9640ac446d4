/- Which cells fit, plainly. -/
import Derived.Test.YthifgfhgkdjkfaaDoorCaW
namespace Go.Proofs.YthifgfhgkdjkfaaDoor
/-- which cells fit -/
def fitL (fl : List (Int × Bool)) (c : List Int) : Bool := (List.zipWith (fun f x => fitB f.1 x) fl c).all id
def nowOk (now : Int) : Bool := decide (0 ≤ now) && decide (now ≤ 2147483647)
def mayP (fl : List (Int × Bool)) (c : List Int) (now : Int) : Int := if c.length = fl.length then if fitL fl c then if nowOk now then 0 else 1 else 1 else 4
theorem fitL_no {fl : List (Int × Bool)} {c : List Int} {k : Nat} {f : Int × Bool} {x : Int} (hf : fl[k]? = some f) (hx : c[k]? = some x) (h : fitB f.1 x = false) : fitL fl c = false := by
  unfold fitL
  rw [List.all_eq_false]
  refine ⟨false, ?_, by decide⟩
  have : (List.zipWith (fun f x => fitB f.1 x) fl c)[k]? = some false := by rw [List.getElem?_zipWith, hf, hx, ← h]
  exact List.mem_of_getElem? this
theorem fitL_all {fl : List (Int × Bool)} {c : List Int} (h : ∀ (k : Nat) (f : Int × Bool) (x : Int), fl[k]? = some f → c[k]? = some x → fitB f.1 x = true) : fitL fl c = true := by
  unfold fitL
  rw [List.all_eq_true]
  intro b hb
  obtain ⟨k, hk⟩ := List.getElem?_of_mem hb
  rw [List.getElem?_zipWith] at hk
  cases hf : fl[k]? with
  | none => rw [hf] at hk; cases hk
  | some f =>
    cases hx : c[k]? with
    | none => rw [hf, hx] at hk; cases hk
    | some x =>
      rw [hf, hx] at hk
      have := h k f x hf hx
      simp only [Option.some.injEq] at hk
      rw [← hk, this]; rfl
end Go.Proofs.YthifgfhgkdjkfaaDoor
