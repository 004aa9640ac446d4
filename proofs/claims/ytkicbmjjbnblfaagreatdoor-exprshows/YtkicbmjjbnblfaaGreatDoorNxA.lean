/- The names of two expressions put together, plain. | Plain facts for ExprShows: the names each once, rising, are one list; where the expression that ends at a place begins. -/
import Derived.Test.YtkicbmjjbnblfaaGreatDoorNmA
import Derived.Sort.Walk0
namespace Go.Proofs.YtkicbmjjbnblfaaGreatDoor
open Go.Lib
theorem ltB_less : ∀ a b : Bs, ltB a b = Op.bytesLess a b
  | [], [] => rfl
  | [], _ :: _ => rfl
  | _ :: _, [] => rfl
  | a :: x, b :: y => by
    unfold ltB Op.bytesLess
    rw [ltB_less x y]
    by_cases h1 : a < b
    · simp [h1]
    · by_cases h2 : b < a
      · have h3 : ¬ a = b := fun e => by rw [e] at h2; exact absurd h2 (UInt8.lt_irrefl _)
        simp [h1, h2, h3]
      · have h3 : a = b := UInt8.le_antisymm (UInt8.not_lt.1 h2) (UInt8.not_lt.1 h1)
        simp [h3]
theorem lt_ltB (a b : Bs) : decide (a < b) = ltB a b := by rw [ltB_less, bytesLess_eq]
theorem le_ltB (a b : Bs) : decide (a ≤ b) = !ltB b a := by
  rw [← lt_ltB]
  by_cases h : b < a
  · rw [decide_eq_true h]
    exact decide_eq_false (fun h2 => absurd h (List.not_lt.2 h2))
  · rw [decide_eq_false h]
    exact decide_eq_true (List.not_lt.1 h)
theorem leB_trans {a b c : Bs} (h1 : ltB b a = false) (h2 : ltB c b = false) : ltB c a = false := by
  cases h : ltB c a with
  | false => rfl
  | true =>
    cases h3 : ltB a b with
    | true => rw [ltB_trans h h3] at h2; cases h2
    | false =>
      have := ltB_tri a b h3 h1
      subst this
      rw [h] at h2; cases h2
theorem ltB_asym {a b : Bs} (h : ltB a b = true) : ltB b a = false := by
  cases h2 : ltB b a with
  | false => rfl
  | true => have := ltB_trans h h2; rw [ltB_irr] at this; cases this
theorem leB_lt {a b c : Bs} (h1 : ltB b a = false) (h2 : ltB b c = true) : ltB a c = true := by
  cases h3 : ltB a b with
  | true => exact ltB_trans h3 h2
  | false =>
    have := ltB_tri a b h3 h1
    subst this
    exact h2
/-- each once, rising: of a list in order -/
theorem compact_sorted {zs : List Bs} (hs : zs.Pairwise fun a b => ltB b a = false) : (∀ y, y ∈ compact zs ↔ y ∈ zs) ∧ (compact zs).Pairwise fun a b => ltB a b = true := by
  have key : ∀ m, m ≤ zs.length → (∀ y, y ∈ compactUpTo zs.toArray m ↔ y ∈ zs.take m) ∧ (compactUpTo zs.toArray m).Pairwise fun a b => ltB a b = true := by
    intro m
    induction m with
    | zero => intro _; exact ⟨fun y => by simp [compactUpTo], by simp [compactUpTo]⟩
    | succ m ih =>
      intro hm
      obtain ⟨h1, h2⟩ := ih (by omega)
      have hget : zs.toArray[m]! = zs[m]'(by omega) := by simp [getElem!_pos, show m < zs.length by omega]
      have htk : zs.take (m + 1) = zs.take m ++ [zs[m]'(by omega)] := by rw [List.take_add_one, List.getElem?_eq_getElem (by omega)]; rfl
      rw [compactUpTo_succ, htk]
      by_cases hk : keeps zs.toArray m = true
      · rw [if_pos hk, hget]
        refine ⟨fun y => ?_, ?_⟩
        · rw [List.mem_append, List.mem_append, h1]
        · rw [List.pairwise_append]
          refine ⟨h2, List.pairwise_singleton _ _, fun a ha b hb => ?_⟩
          rw [List.mem_singleton] at hb
          subst hb
          have ha' := (h1 a).1 ha
          obtain ⟨i, hi, rfl⟩ := List.mem_iff_getElem.1 ha'
          rw [List.length_take] at hi
          rw [List.getElem_take]
          have hm0 : 0 < m := by omega
          have hne : zs[m]'(by omega) ≠ zs[m - 1]'(by omega) := by
            unfold keeps at hk
            have := of_decide_eq_true hk
            rcases this with h | h
            · omega
            · rw [hget] at h
              have h9 : zs.toArray[m - 1]! = zs[m - 1]'(by omega) := by simp [getElem!_pos, show m - 1 < zs.length by omega]
              rw [h9] at h
              exact h
          have hl1 : ltB (zs[m]'(by omega)) (zs[m - 1]'(by omega)) = false := List.pairwise_iff_getElem.1 hs (m - 1) m (by omega) (by omega) (by omega)
          have hlt : ltB (zs[m - 1]'(by omega)) (zs[m]'(by omega)) = true := by
            cases h : ltB (zs[m - 1]'(by omega)) (zs[m]'(by omega)) with
            | true => rfl
            | false => exact absurd (ltB_tri _ _ hl1 h) hne
          rcases Nat.lt_or_ge i (m - 1) with h | h
          · have h3 : ltB (zs[m - 1]'(by omega)) (zs[i]'(by omega)) = false := List.pairwise_iff_getElem.1 hs i (m - 1) (by omega) (by omega) h
            exact leB_lt h3 hlt
          · have : i = m - 1 := by omega
            subst this
            exact hlt
      · have hk' : keeps zs.toArray m = false := by simpa using hk
        rw [hk', if_neg (by decide), List.append_nil]
        refine ⟨fun y => ?_, h2⟩
        rw [List.mem_append, h1]
        constructor
        · exact .inl
        · rintro (h | h)
          · exact h
          · rw [List.mem_singleton] at h
            have hk2 : ¬ (m = 0 ∨ zs.toArray[m]! ≠ zs.toArray[m - 1]!) := by
              unfold keeps at hk'
              exact of_decide_eq_false hk'
            have hm0 : 0 < m := Nat.pos_of_ne_zero (fun e => hk2 (.inl e))
            have heq : zs.toArray[m]! = zs.toArray[m - 1]! := Decidable.byContradiction fun e => hk2 (.inr e)
            have h9 : zs.toArray[m - 1]! = zs[m - 1]'(by omega) := by simp [getElem!_pos, show m - 1 < zs.length by omega]
            rw [hget, h9] at heq
            rw [h, heq]
            exact List.mem_iff_getElem.2 ⟨m - 1, by rw [List.length_take]; omega, by rw [List.getElem_take]⟩
  have := key zs.length (Nat.le_refl _)
  rw [List.take_length] at this
  exact this
theorem sorted_of (l : List Bs) : (l.mergeSort fun a b => decide (a ≤ b)).Pairwise fun a b => ltB b a = false := by
  have h := List.pairwise_mergeSort (le := fun a b : Bs => decide (a ≤ b)) (fun a b c h1 h2 => by
    rw [le_ltB] at h1 h2 ⊢
    rw [leB_trans (by simpa using h1) (by simpa using h2)]
    rfl) (fun a b => by
    rw [le_ltB, le_ltB]
    cases h : ltB b a with
    | false => rfl
    | true => rw [ltB_asym h]; rfl) l
  exact h.imp fun {a b} h => by
    rw [le_ltB] at h
    simpa using h
theorem mem_nms (x : List Pt) (y : Bs) : y ∈ nmsS x ↔ y ∈ nmsL x := by
  unfold nmsS
  rw [(compact_sorted (sorted_of _)).1]
  exact (List.mergeSort_perm _ _).mem_iff
theorem nms_rise (x : List Pt) : (nmsS x).Pairwise fun a b => ltB a b = true := (compact_sorted (sorted_of _)).2
theorem nms_both (a b : List Pt) (n : Int) (y : Bs) : y ∈ nmsS (a ++ b ++ [opP n]) ↔ y ∈ nmsS a ∨ y ∈ nmsS b := by
  rw [mem_nms, mem_nms, mem_nms]
  unfold nmsL
  rw [List.map_append, List.map_append, List.filter_append, List.filter_append]
  have : (([opP n]).map (·.s)).filter (fun s => !s.isEmpty) = [] := rfl
  rw [this, List.append_nil, List.mem_append]
theorem nms_len {x : List Pt} (h : x.length ≤ 500) : (nmsS x).length ≤ 500 := by
  unfold nmsS
  refine Nat.le_trans (compact_length_le _) ?_
  rw [List.length_mergeSort]
  unfold nmsL
  refine Nat.le_trans (List.length_filter_le _ _) ?_
  rw [List.length_map]
  exact h
end Go.Proofs.YtkicbmjjbnblfaaGreatDoor
namespace Go.Proofs.YtkicbmjjbnblfaaGreatDoor
theorem rise_same : ∀ {a b : List Bs}, a.Pairwise (fun x y => ltB x y = true) → b.Pairwise (fun x y => ltB x y = true) → (∀ y, y ∈ a ↔ y ∈ b) → a = b
  | [], [], _, _, _ => rfl
  | [], y :: b, _, _, h => absurd ((h y).2 List.mem_cons_self) (by simp)
  | x :: a, [], _, _, h => absurd ((h x).1 List.mem_cons_self) (by simp)
  | x :: a, y :: b, ha, hb, h => by
    rw [List.pairwise_cons] at ha hb
    have hxy : x = y := by
      rcases List.mem_cons.1 ((h x).1 List.mem_cons_self) with e | e
      · exact e
      · rcases List.mem_cons.1 ((h y).2 List.mem_cons_self) with e2 | e2
        · exact e2.symm
        · have h1 := hb.1 x e
          have h2 := ha.1 y e2
          rw [ltB_asym h1] at h2
          cases h2
    subst hxy
    have : a = b := rise_same ha.2 hb.2 fun z => by
      constructor
      · intro hz
        rcases List.mem_cons.1 ((h z).1 (List.mem_cons_of_mem _ hz)) with e | e
        · have := ha.1 z hz
          rw [e, ltB_irr] at this
          cases this
        · exact e
      · intro hz
        rcases List.mem_cons.1 ((h z).2 (List.mem_cons_of_mem _ hz)) with e | e
        · have := hb.1 z hz
          rw [e, ltB_irr] at this
          cases this
        · exact e
    rw [this]
theorem nms_names (x : List Pt) : nmsS x = namesP x := by
  refine rise_same (nms_rise x) (names_sorted x) fun y => ?_
  rw [mem_nms, mem_names]
  unfold nmsL
  rw [List.mem_filter, List.mem_map]
  constructor
  · rintro ⟨⟨p, hp, rfl⟩, h⟩
    refine ⟨p, hp, rfl, fun e => ?_⟩
    rw [e] at h
    cases h
  · rintro ⟨p, hp, rfl, h⟩
    refine ⟨⟨p, hp, rfl⟩, ?_⟩
    cases hs : p.s with
    | nil => exact absurd hs h
    | cons c r => rfl
/-- the document's from: how many values are wanted, going back -/
def back : List Pt → Nat → Option Nat
  | [], _ => none
  | p :: r, n => if n + takes p = 1 then some r.length else back r (n + takes p - 1)
theorem back_cons (p : Pt) (r : List Pt) (n : Nat) : back (p :: r) n = if n + takes p = 1 then some r.length else back r (n + takes p - 1) := rfl
/-- over a whole expression, going back, one value is found, and not earlier -/
theorem back_flat : ∀ (e : Ex), well e → ∀ (n : Nat) (r : List Pt), 1 ≤ n → back ((flat e).reverse ++ r) n = if n = 1 then some r.length else back r (n - 1)
  | .leaf p, hw, n, r, hn => by
    show back (p :: r) n = _
    rw [back_cons, hw.1, Nat.add_zero]
  | .one p e, hw, n, r, hn => by
    show back ((flat e ++ [p]).reverse ++ r) n = _
    rw [List.reverse_append]
    show back (p :: ((flat e).reverse ++ r)) n = _
    rw [back_cons, hw.1, if_neg (by omega), show n + 1 - 1 = n from by omega, back_flat e hw.2.2 n r hn]
  | .two p a b, hw, n, r, hn => by
    show back ((flat a ++ (flat b ++ [p])).reverse ++ r) n = _
    rw [List.reverse_append, List.reverse_append]
    show back (p :: ((flat b).reverse ++ (flat a).reverse ++ r)) n = _
    rw [back_cons, hw.1, if_neg (by omega), show n + 2 - 1 = n + 1 from by omega, List.append_assoc, back_flat b hw.2.2.2 (n + 1) _ (by omega), if_neg (by omega), show n + 1 - 1 = n from by omega, back_flat a hw.2.2.1 n r hn]
end Go.Proofs.YtkicbmjjbnblfaaGreatDoor
