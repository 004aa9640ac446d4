/- Signs, plain. -/
import Derived.Test.YtfcnbiikjopajaaDoorGlo
namespace Go.Proofs.YtfcnbiikjopajaaDoor
open Go.RowKit
def signAll : List Bs := [[58, 61], [60, 61], [62, 61], [60, 62], [42, 42], [46, 46], [40], [41], [91], [93], [44], [59], [58], [46], [43], [45], [42], [47], [61], [60], [62], [38]]
theorem pre_iff (g l : Bs) : g.isPrefixOf l = true ↔ g = l.take g.length := by
  rw [List.isPrefixOf_iff_prefix, List.prefix_iff_eq_take]
theorem find_len {n : Nat} (l : Bs) : ∀ L : List Bs, (∀ g ∈ L, g.length = n) → L.find? (fun g => g.isPrefixOf l) = if l.take n ∈ L then some (l.take n) else none
  | [], _ => by simp
  | g :: L, h => by
    have hg := h g List.mem_cons_self
    have ih := find_len l L fun x hx => h x (List.mem_cons_of_mem _ hx)
    rw [List.find?_cons]
    by_cases e : g = l.take n
    · have : g.isPrefixOf l = true := (pre_iff g l).2 (by rw [hg]; exact e)
      rw [this]
      simp only []
      rw [if_pos (by rw [← e]; exact List.mem_cons_self), e]
    · have : g.isPrefixOf l = false := by
        cases hq : g.isPrefixOf l with
        | false => rfl
        | true => exact absurd ((pre_iff g l).1 hq) (by rw [hg]; exact e)
      rw [this]
      simp only []
      rw [ih]
      by_cases hm : l.take n ∈ L
      · rw [if_pos hm, if_pos (List.mem_cons_of_mem _ hm)]
      · rw [if_neg hm, if_neg]
        intro hc
        rcases List.mem_cons.1 hc with hc | hc
        · exact e hc.symm
        · exact hm hc
theorem signs_split : signAll = signs2 ++ signs1.map (fun c => [c]) := by decide
theorem sign_find (l : Bs) : signL l = (signAll.find? fun g => g.isPrefixOf l).map fun g => (signT g, l.drop g.length) := by
  rw [signs_split, List.find?_append, find_len (n := 2) l signs2 (by decide), find_len (n := 1) l (signs1.map fun c => [c]) (by decide)]
  unfold signL
  by_cases h : l.take 2 ∈ signs2
  · rw [if_pos h, if_pos h]
    have : (l.take 2).length = 2 := (show ∀ g ∈ signs2, g.length = 2 by decide) _ h
    simp [this]
  · rw [if_neg h, if_neg h]
    match l with
    | [] => simp [signs1]
    | c :: r =>
      simp only [Option.none_or]
      by_cases hc : c ∈ signs1
      · rw [if_pos hc, if_pos (by simpa using hc)]
        simp
      · rw [if_neg hc, if_neg (by simpa using hc)]
        rfl
end Go.Proofs.YtfcnbiikjopajaaDoor
