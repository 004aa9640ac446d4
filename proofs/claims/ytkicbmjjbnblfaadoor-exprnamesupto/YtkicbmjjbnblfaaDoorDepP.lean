/- Plain facts on expr.Check: the depths of the values that no part has worked on as yet. -/
import Derived.Test.YtkicbmjjbnblfaaDoorBckE
namespace Go.Proofs.YtkicbmjjbnblfaaDoor
def deep (l : List Nat) : Nat := l.foldl (fun m d => max m (d + 1)) 1
/-- one part, the values in their own order -/
def stepD (p : Pt) (ds : List Nat) : Option (List Nat) :=
  if ds.length < takes p then none else some (ds.take (ds.length - takes p) ++ [deep (ds.drop (ds.length - takes p))])
theorem takes_cases (p : Pt) : takes p = 0 ∨ takes p = 1 ∨ takes p = 2 := by have := takes_le p; omega
theorem depths_step (p : Pt) (x : List Pt) (ds : List Nat) : depths (p :: x) ds.reverse = match stepD p ds with
    | none => none
    | some ds' => depths x ds'.reverse := by
  conv => lhs; unfold depths
  unfold stepD
  rcases takes_cases p with h | h | h
  · rw [h, if_pos rfl, if_neg (by omega)]
    simp only [Nat.sub_zero, List.take_length, List.drop_length, List.reverse_append, List.reverse_cons, List.reverse_nil, List.nil_append, List.singleton_append]
    rfl
  · rw [h, if_neg (by decide), if_pos rfl]
    rcases List.eq_nil_or_concat ds with rfl | ⟨l, a, rfl⟩
    · rfl
    · rw [List.concat_eq_append, List.reverse_append, if_neg (by simp)]
      simp only [List.length_append, List.length_cons, List.length_nil, Nat.zero_add, Nat.add_sub_cancel, List.take_left', List.drop_left', List.reverse_append, List.reverse_cons, List.reverse_nil, List.nil_append, List.cons_append]
      show depths x ((a + 1) :: l.reverse) = depths x (deep [a] :: l.reverse)
      have : deep [a] = a + 1 := by show max 1 (a + 1) = a + 1; omega
      rw [this]
  · rw [h, if_neg (by decide), if_neg (by decide)]
    rcases List.eq_nil_or_concat ds with rfl | ⟨l, a, rfl⟩
    · rfl
    · rcases List.eq_nil_or_concat l with rfl | ⟨l, b, rfl⟩
      · rfl
      · rw [List.concat_eq_append, List.concat_eq_append, if_neg (by simp)]
        have e1 : (l ++ [b] ++ [a]).length - 2 = l.length := by simp
        rw [e1, List.append_assoc, List.take_left' rfl, List.drop_left' rfl]
        simp only [List.reverse_append, List.reverse_cons, List.reverse_nil, List.nil_append, List.cons_append]
        show depths x ((max a b + 1) :: l.reverse) = depths x (deep [b, a] :: l.reverse)
        have : deep [b, a] = max a b + 1 := by show max (max 1 (b + 1)) (a + 1) = _; omega
        rw [this]
theorem depths_app : ∀ (a b : List Pt) (st : List Nat), depths (a ++ b) st = match depths a st with
    | none => none
    | some st' => depths b st'
  | [], b, st => rfl
  | p :: a, b, st => by
    obtain ⟨ds, rfl⟩ : ∃ ds : List Nat, st = ds.reverse := ⟨st.reverse, (List.reverse_reverse st).symm⟩
    rw [List.cons_append, depths_step, depths_step]
    cases stepD p ds with
    | none => rfl
    | some ds' => exact depths_app a b _
theorem deep_ge (l : List Nat) : ∀ m, (∀ d ∈ l, d + 1 ≤ l.foldl (fun m d => max m (d + 1)) m) ∧ m ≤ l.foldl (fun m d => max m (d + 1)) m := by
  induction l with
  | nil => intro m; exact ⟨fun d hd => (by cases hd), Nat.le_refl _⟩
  | cons a l ih =>
    intro m
    obtain ⟨h1, h2⟩ := ih (max m (a + 1))
    refine ⟨fun d hd => ?_, ?_⟩
    · rcases List.mem_cons.1 hd with rfl | hd
      · exact Nat.le_trans (Nat.le_max_right _ _) h2
      · exact h1 d hd
    · exact Nat.le_trans (Nat.le_max_left _ _) h2
/-- what is too deep stays so -/
theorem step_big {p : Pt} {ds ds' : List Nat} (h : stepD p ds = some ds') (hb : ∃ d ∈ ds, 24 < d) : ∃ d ∈ ds', 24 < d := by
  unfold stepD at h
  split at h
  · cases h
  · injection h with h
    obtain ⟨d, hd, hd2⟩ := hb
    rw [← h]
    rw [← List.take_append_drop (ds.length - takes p) ds] at hd
    rcases List.mem_append.1 hd with hd | hd
    · exact ⟨d, List.mem_append_left _ hd, hd2⟩
    · refine ⟨_, List.mem_append_right _ (List.mem_singleton.2 rfl), ?_⟩
      have := (deep_ge (ds.drop (ds.length - takes p)) 1).1 d hd
      unfold deep
      omega
theorem depths_big : ∀ (x : List Pt) (ds st : List Nat), depths x ds.reverse = some st → (∃ d ∈ ds, 24 < d) → ∃ d ∈ st, 24 < d
  | [], ds, st, h, hb => by
    have h' : some ds.reverse = some st := h
    injection h' with h
    obtain ⟨d, hd, hd2⟩ := hb
    exact ⟨d, by rw [← h]; exact List.mem_reverse.2 hd, hd2⟩
  | p :: x, ds, st, h, hb => by
    rw [depths_step] at h
    cases hs : stepD p ds with
    | none => rw [hs] at h; cases h
    | some ds' =>
      rw [hs] at h
      exact depths_big x ds' st h (step_big hs hb)
/-- where a part can't be, or lacks a value, or is too deep, the whole may not be -/
theorem check_bad {x : List Pt} (hl : ¬ 500 < x.length) (h : x.all mayP = false ∨ depth x = 0 ∨ 24 < depth x) : checkP x = 60 := by
  unfold checkP
  rw [if_neg hl]
  by_cases ha : x.all mayP = false
  · rw [if_pos ha]
  · rw [if_neg ha]
    rcases h with h | h
    · exact absurd h ha
    · rw [if_pos h]
theorem check_may {x : List Pt} (hl : ¬ 500 < x.length) {i : Nat} {p : Pt} (hi : x[i]? = some p) (hp : mayP p = false) : checkP x = 60 :=
  check_bad hl (.inl (by rw [List.all_eq_false]; exact ⟨p, List.mem_of_getElem? hi, by rw [hp]; decide⟩))
theorem split_at {x : List Pt} {i : Nat} {p : Pt} (hi : x[i]? = some p) : x = x.take i ++ p :: x.drop (i + 1) := by
  obtain ⟨h, e⟩ := List.getElem?_eq_some_iff.1 hi
  rw [← e, ← List.drop_eq_getElem_cons h, List.take_append_drop]
theorem check_lack {x : List Pt} (hl : ¬ 500 < x.length) {i : Nat} {p : Pt} {ds : List Nat} (hi : x[i]? = some p) (hd : depths (x.take i) [] = some ds.reverse) (hp : stepD p ds = none) : checkP x = 60 :=
  check_bad hl (.inr (.inl (by
    unfold depth
    rw [split_at hi, depths_app, hd]
    simp only []
    rw [depths_step, hp])))
theorem check_deep {x : List Pt} (hl : ¬ 500 < x.length) {i : Nat} {p : Pt} {ds ds' : List Nat} (hi : x[i]? = some p) (hd : depths (x.take i) [] = some ds.reverse) (hp : stepD p ds = some ds') (hb : ∃ d ∈ ds', 24 < d) : checkP x = 60 := by
  have e : depths x [] = depths (x.drop (i + 1)) ds'.reverse := by
    conv => lhs; rw [split_at hi]
    rw [depths_app, hd]
    simp only []
    rw [depths_step, hp]
  refine check_bad hl (.inr ?_)
  unfold depth
  rw [e]
  cases hq : depths (x.drop (i + 1)) ds'.reverse with
  | none => exact .inl rfl
  | some st =>
    obtain ⟨d, hd1, hd2⟩ := depths_big _ _ _ hq hb
    match st, hd1 with
    | [a], hd1 => exact .inr (by rw [← List.mem_singleton.1 hd1]; exact hd2)
    | a :: b :: r, _ => exact .inl rfl
theorem check_one {x : List Pt} (hl : ¬ 500 < x.length) {ds : List Nat} (hd : depths x [] = some ds.reverse) (h1 : ds.length ≠ 1) : checkP x = 60 := by
  refine check_bad hl (.inr (.inl ?_))
  unfold depth
  rw [hd]
  match hr : ds.reverse with
  | [] => rfl
  | [a] => exact absurd (by rw [← List.length_reverse, hr]; rfl) h1
  | a :: b :: r => rfl
theorem check_good {x : List Pt} (hl : ¬ 500 < x.length) {ds : List Nat} (hm : ∀ (i : Nat) p, x[i]? = some p → mayP p = true) (hd : depths x [] = some ds.reverse) (h1 : ds.length = 1) (hs : ∀ d ∈ ds, 1 ≤ d ∧ d ≤ 24) : checkP x = 0 := by
  unfold checkP
  rw [if_neg hl, if_neg, if_neg]
  · unfold depth
    rw [hd]
    match ds, h1 with
    | [a], _ =>
      have := hs a List.mem_cons_self
      show ¬ (a = 0 ∨ 24 < a)
      omega
  · intro h
    rw [List.all_eq_false] at h
    obtain ⟨p, hp, hn⟩ := h
    obtain ⟨i, hi⟩ := List.mem_iff_getElem?.1 hp
    exact hn (hm i p hi)
end Go.Proofs.YtkicbmjjbnblfaaDoor
