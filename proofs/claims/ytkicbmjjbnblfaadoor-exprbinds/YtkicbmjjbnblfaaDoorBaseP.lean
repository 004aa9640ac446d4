/- Numbers without a type, plain: the program's bases. -/
import Derived.Test.YtkicbmjjbnblfaaDoorStoreW
namespace Go.Proofs.YtkicbmjjbnblfaaDoor
open Go.RowKit
def baseNames : List Bs := [[50, 35], [56, 35], [49, 54, 35]]
def baseNos : List Nat := [2, 8, 16]
theorem base_tab (k : Nat) (h : k < 3) : baseTab.toArray.extract (k * 2) (k * 2 + 2) = #[.string ⟨(baseNames[k]'h).toArray⟩, .int .i64 ((baseNos[k]'h : Nat) : Int)] := by
  have : k = 0 ∨ k = 1 ∨ k = 2 := by omega
  rcases this with rfl | rfl | rfl <;> rfl
theorem base_no (k : Nat) (h : k < 3) : 2 ≤ baseNos[k]'h ∧ baseNos[k]'h ≤ 16 := by
  have : k = 0 ∨ k = 1 ∨ k = 2 := by omega
  rcases this with rfl | rfl | rfl <;> simp [baseNos]
theorem base_len (k : Nat) (h : k < 3) : 2 ≤ (baseNames[k]'h).length ∧ (baseNames[k]'h).length ≤ 3 := by
  have : k = 0 ∨ k = 1 ∨ k = 2 := by omega
  rcases this with rfl | rfl | rfl <;> simp [baseNames]
/-- what a based number is -/
def basedP (base : Nat) (l : Bs) : Option (Int × Bs) := if okP base l = true ∧ (pd base false 0 l).1 ≤ 4294967295 then some (low32 (pd base false 0 l).1, (pd base false 0 l).2) else none
theorem pre_take (g l : Bs) : g.isPrefixOf l = decide (l.take g.length = g) := by
  rw [Bool.eq_iff_iff, List.isPrefixOf_iff_prefix, List.prefix_iff_eq_take, decide_eq_true_eq]
  exact eq_comm
theorem digs_based {base : Nat} (h2 : 2 ≤ base) (h16 : base ≤ 16) (l : Bs) : ((digs base 4294967295 false 0 l).map fun x => (low32 x.1, x.2)) = basedP base l := by
  rw [digs_num (by omega) (by omega) (by omega) (by omega)]
  unfold basedP
  split <;> rfl
theorem based_at (k : Nat) (h : k < 3) (l : Bs) (hp : (baseNames[k]'h).isPrefixOf l = true) : based l = basedP (baseNos[k]'h) (l.drop (baseNames[k]'h).length) := by
  have : k = 0 ∨ k = 1 ∨ k = 2 := by omega
  rcases this with rfl | rfl | rfl
  · rw [pre_take] at hp
    have hp : l.take 2 = [50, 35] := of_decide_eq_true hp
    unfold based
    rw [if_pos hp, digs_based (by omega) (by omega)]
    rfl
  · rw [pre_take] at hp
    have hp : l.take 2 = [56, 35] := of_decide_eq_true hp
    unfold based
    rw [if_neg (by rw [hp]; decide), if_pos hp, digs_based (by omega) (by omega)]
    rfl
  · rw [pre_take] at hp
    have hp : l.take 3 = [49, 54, 35] := of_decide_eq_true hp
    have h2 : l.take 2 = [49, 54] := by
      have := congrArg (List.take 2) hp
      rwa [List.take_take] at this
    unfold based
    rw [if_neg (by rw [h2]; decide), if_neg (by rw [h2]; decide), if_pos hp, digs_based (by omega) (by omega)]
    rfl
theorem based_none (l : Bs) (h : ∀ k (hk : k < 3), (baseNames[k]'hk).isPrefixOf l = false) : based l = if okP 10 l = true ∧ (pd 10 false 0 l).1 ≤ 2147483648 then some (((pd 10 false 0 l).1 : Int), (pd 10 false 0 l).2) else none := by
  have h0 : ¬ l.take 2 = [50, 35] := fun e => by have := h 0 (by omega); rw [pre_take] at this; exact absurd e (of_decide_eq_false this)
  have h1 : ¬ l.take 2 = [56, 35] := fun e => by have := h 1 (by omega); rw [pre_take] at this; exact absurd e (of_decide_eq_false this)
  have h2 : ¬ l.take 3 = [49, 54, 35] := fun e => by have := h 2 (by omega); rw [pre_take] at this; exact absurd e (of_decide_eq_false this)
  unfold based
  rw [if_neg h0, if_neg h1, if_neg h2, digs_num (by omega) (by omega) (by omega) (by omega)]
  split <;> rfl
end Go.Proofs.YtkicbmjjbnblfaaDoor
