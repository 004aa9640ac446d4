/- VerifyChecks: what the document's look says, in plain words. | The document's cells: plain. -/
import Derived.Test.YtlckedionmgjjaaDoorVuW
import Derived.Test.YtlckedionmgjjaaDoorMg13
import Derived.Test.YtlckedionmgjjaaDoorMg18
import Derived.Deep.QuietTactic
import Derived.BigQuiet
namespace Go.Proofs.YtlckedionmgjjaaDoor
open Go.RowKit
/-- does a value of type t serve where a is asked for? -/
def okT (a t : Int) : Bool := if a = -1 then t == 2 || t == 3 else a == t
/-- do the values on top serve? -/
def fitR (l : List Int) (s : Stk) : Bool := (List.range l.length).all fun j => okT (l.getD j 0) (s.getD (s.length - l.length + j) 0)
def passR (p : List Int × List Int) (s : Stk) : Option Stk :=
  if s.length < p.1.length then none else if fitR p.1 s = false then none else if 64 < (s.take (s.length - p.1.length) ++ p.2).length then none else some (s.take (s.length - p.1.length) ++ p.2)
theorem take_nil (ts : List Int) : takeS ts [] = none := rfl
theorem take_snoc (ts : List Int) (t : Stk) (x : Int) : takeS ts (t ++ [x]) = if ts.contains x then some t else none := by
  unfold takeS
  rw [List.getLast?_append]
  simp
theorem leave_le {t : Int} {s : Stk} (h : s.length ≤ 64) : leaveS t s = if 64 < (s ++ [t]).length then none else some (s ++ [t]) := by
  unfold leaveS
  by_cases e : s.length = 64
  · rw [if_pos e, if_pos (by simp; omega)]
  · rw [if_neg e, if_neg (by simp; omega)]
theorem pass0 (o : List Int) (s : Stk) : passR ([], o) s = if 64 < (s ++ o).length then none else some (s ++ o) := by
  unfold passR fitR
  simp
theorem pass1_nil (a : Int) (o : List Int) : passR ([a], o) [] = none := by simp [passR]
theorem pass1 (a : Int) (o : List Int) (t : Stk) (x : Int) : passR ([a], o) (t ++ [x]) = if okT a x then (if 64 < (t ++ o).length then none else some (t ++ o)) else none := by
  have hf : fitR [a] (t ++ [x]) = okT a x := by simp [fitR]
  unfold passR
  rw [hf]
  have h1 : ¬ (t ++ [x]).length < ([a] : List Int).length := by simp
  have h2 : (t ++ [x]).length - ([a] : List Int).length = t.length := by simp
  dsimp only
  rw [if_neg h1, h2, List.take_left]
  cases okT a x <;> simp
theorem pass2 (a b : Int) (o : List Int) (t : Stk) (y x : Int) : passR ([a, b], o) (t ++ [y] ++ [x]) = if okT a y && okT b x then (if 64 < (t ++ o).length then none else some (t ++ o)) else none := by
  have hf : fitR [a, b] (t ++ [y] ++ [x]) = (okT a y && okT b x) := by simp [fitR, List.range_succ]
  unfold passR
  rw [hf]
  have h1 : ¬ (t ++ [y] ++ [x]).length < ([a, b] : List Int).length := by simp
  have h2 : (t ++ [y] ++ [x]).length - ([a, b] : List Int).length = t.length := by simp
  dsimp only
  rw [if_neg h1, h2, List.append_assoc, List.take_left]
  cases (okT a y && okT b x) <;> simp
theorem pass2_nil (a b : Int) (o : List Int) : passR ([a, b], o) [] = none := by simp [passR]
theorem pass2_one (a b : Int) (o : List Int) (x : Int) : passR ([a, b], o) ([] ++ [x]) = none := by simp [passR]
theorem okT_one {a t : Int} (h : a ≠ -1) : okT a t = [a].contains t := by
  unfold okT
  rw [if_neg h]
  by_cases e : a = t
  · subst e; simp
  · have e1 : (a == t) = false := by simpa using e
    have e2 : ([a] : List Int).contains t = false := by simpa using fun h => e h.symm
    rw [e1, e2]
theorem okT_all (t : Int) : okT (-1) t = [2, 3].contains t := by simp [okT, List.contains, List.elem]; cases h2 : t == 2 <;> cases h3 : t == 3 <;> simp
theorem snoc_cases (s : Stk) : s = [] ∨ ∃ t x, s = t ++ [x] := by
  rcases List.eq_nil_or_concat s with h | ⟨t, x, h⟩
  · exact .inl h
  · exact .inr ⟨t, x, by rw [h]; simp⟩
theorem one_eq {a : Int} {ts : List Int} (hT : ∀ t, okT a t = ts.contains t) (s : Stk) (hs : s.length ≤ 64) : passR ([a], []) s = takeS ts s ∧ ∀ b, passR ([a], [b]) s = (takeS ts s).bind (leaveS b) := by
  rcases snoc_cases s with rfl | ⟨t, x, rfl⟩
  · exact ⟨by rw [pass1_nil, take_nil], fun b => by rw [pass1_nil, take_nil]; rfl⟩
  · have ht : t.length ≤ 63 := by simp at hs; omega
    refine ⟨?_, fun b => ?_⟩
    · have e : ¬ 64 < (t ++ ([] : List Int)).length := by simp; omega
      rw [pass1, take_snoc, hT, if_neg e, List.append_nil]
    · rw [pass1, take_snoc, hT]
      cases ts.contains x
      · rfl
      · rw [if_pos rfl, if_pos rfl]
        exact (leave_le (by omega)).symm
theorem two_eq {a b : Int} {ts us : List Int} (hT : ∀ t, okT a t = ts.contains t) (hU : ∀ t, okT b t = us.contains t) (s : Stk) (hs : s.length ≤ 64) :
    passR ([a, b], []) s = (takeS us s).bind (takeS ts) ∧ ∀ c, passR ([a, b], [c]) s = ((takeS us s).bind (takeS ts)).bind (leaveS c) := by
  rcases snoc_cases s with rfl | ⟨t, x, rfl⟩
  · exact ⟨by rw [pass2_nil, take_nil]; rfl, fun c => by rw [pass2_nil, take_nil]; rfl⟩
  · rcases snoc_cases t with rfl | ⟨t, y, rfl⟩
    · have : takeS us ([] ++ [x]) = none ∨ takeS us ([] ++ [x]) = some [] := by
        rw [take_snoc]; cases us.contains x
        · exact .inl rfl
        · exact .inr rfl
      refine ⟨?_, fun c => ?_⟩
      · rw [pass2_one]; rcases this with e | e <;> rw [e] <;> rfl
      · rw [pass2_one]; rcases this with e | e <;> rw [e] <;> rfl
    · have ht : t.length ≤ 62 := by simp at hs; omega
      have e : (takeS us (t ++ [y] ++ [x])).bind (takeS ts) = if okT a y && okT b x then some t else none := by
        rw [take_snoc, hT, hU]
        cases us.contains x
        · simp
        · rw [if_pos rfl, Option.bind_some, take_snoc]; simp
      rw [e]
      refine ⟨?_, fun c => ?_⟩
      · have e2 : ¬ 64 < (t ++ ([] : List Int)).length := by simp; omega
        rw [pass2, if_neg e2, List.append_nil]
      · rw [pass2]
        cases (okT a y && okT b x)
        · rfl
        · rw [if_pos rfl, if_pos rfl]
          exact (leave_le (by omega)).symm
theorem pass_eq {ty : List Int} {n : Nat} {i : Ins} {s : Stk} (hs : s.length ≤ 64) (hty : ∀ t ∈ ty, 1 ≤ t ∧ t ≤ 4) (hi : mayI ty n i = true) : passR (takesI ty i) s = passS ty i s := by
  obtain ⟨op, a, c, m⟩ := i
  have ho : 1 ≤ op ∧ op ≤ 12 := may_op hi
  have hall := okT_all
  have h0 : passR ([], []) s = some s := by rw [pass0, if_neg (by simp; omega)]; simp
  have : op = 1 ∨ op = 2 ∨ op = 3 ∨ op = 4 ∨ op = 5 ∨ op = 6 ∨ op = 7 ∨ op = 8 ∨ op = 9 ∨ op = 10 ∨ op = 11 ∨ op = 12 := by omega
  rcases this with rfl | rfl | rfl | rfl | rfl | rfl | rfl | rfl | rfl | rfl | rfl | rfl
  · exact (pass0 _ _).trans (leave_le hs).symm
  · exact (pass0 _ _).trans (leave_le hs).symm
  · obtain ⟨_, _, _, _, h1, h2⟩ := tyC_of hty (may_cell hi (by decide))
    have hx : tyC ty a ≠ -1 := by omega
    exact (one_eq (fun t => okT_one hx) s hs).1
  · obtain ⟨_, _, _, _, h1, h2⟩ := tyC_of hty (may_cell hi (by decide))
    exact (one_eq hall s hs).2 _
  · obtain ⟨_, _, _, _, h1, h2⟩ := tyC_of hty (may_cell hi (by decide))
    have hx : tyC ty a ≠ -1 := by omega
    exact (two_eq hall (fun t => okT_one hx) s hs).1
  · have h1 := (may_two hi).1
    have hx : c ≠ -1 := by omega
    exact (two_eq (fun t => okT_one hx) (fun t => okT_one hx) s hs).2 _
  · have h1 := may_one hi
    have hx : c ≠ -1 := by omega
    exact (one_eq (fun t => okT_one hx) s hs).2 _
  · have h1 := (may_to hi).1
    have hx : a ≠ -1 := by omega
    exact (one_eq (fun t => okT_one hx) s hs).2 _
  · exact h0
  · have hx : (1 : Int) ≠ -1 := by decide
    exact (one_eq (fun t => okT_one hx) s hs).1
  · exact h0
  · exact h0
theorem goes_eq {ty : List Int} {n k : Nat} {i : Ins} (hi : mayI ty n i = true) : goesI k i = (goesS k i).map (fun j : Nat => (j : Int)) := by
  obtain ⟨op, a, c, m⟩ := i
  have ho : 1 ≤ op ∧ op ≤ 12 := may_op hi
  have hA : op = 9 ∨ op = 10 → ((a.toNat : Nat) : Int) = a := fun h => by
    have h' := hi
    unfold mayI rightB at h'
    simp only [Bool.and_eq_true] at h'
    have h2 := h'.2.2
    rw [if_neg (by omega), if_neg (by omega), if_neg (by omega), if_neg (by omega), if_neg (by omega), if_neg (by omega), if_pos h] at h2
    unfold inB at h2
    simp only [Bool.and_eq_true, decide_eq_true_eq] at h2
    omega
  unfold goesI goesS
  dsimp only
  by_cases h9 : op = 9
  · rw [if_pos h9, if_neg (by omega), if_pos h9, List.map_singleton, hA (.inl h9)]
  · by_cases h10 : op = 10
    · rw [if_neg h9, if_pos h10, if_neg (by omega), if_neg h9, if_pos h10, List.map_cons, List.map_singleton, hA (.inr h10)]; rfl
    · by_cases h12 : op = 12
      · rw [if_neg h9, if_neg h10, if_pos h12, if_pos h12]; rfl
      · rw [if_neg h9, if_neg h10, if_neg h12, if_neg h12, if_neg h9, if_neg h10]; rfl
/-! the states: 0 not reached, 1 reached, 2 looked at -/
def stV (m : Vs) (k : Nat) : Int := if (m.at k).isSome then (if m.wt.getD k false then 1 else 2) else 0
def stL (n : Nat) (m : Vs) : List Int := (List.range n).map (stV m)
theorem stL_length (n : Nat) (m : Vs) : (stL n m).length = n := by simp [stL]
theorem stL_get {n k : Nat} (m : Vs) (h : k < n) : (stL n m)[k]? = some (stV m k) := by
  unfold stL
  rw [List.getElem?_map, List.getElem?_range h]; rfl
theorem stL_dp (n : Nat) (m : Vs) (d : Nat) : stL n ⟨m.rs, m.wt, d⟩ = stL n m := rfl
theorem st_one {n k : Nat} {m : Vs} (h : GoodS n m) (hk : k < n) : (stL n m)[k]? = some 1 ↔ m.wt[k]? = some true := by
  rw [stL_get m hk, List.getElem?_eq_getElem (by rw [h.wt]; exact hk)]
  have hg : m.wt.getD k false = m.wt[k]'(by rw [h.wt]; exact hk) := by rw [List.getD_eq_getElem?_getD, List.getElem?_eq_getElem (by rw [h.wt]; exact hk)]; rfl
  unfold stV
  rw [hg]
  have hw := h.wait k
  rw [hg] at hw
  cases hb : m.wt[k]'(by rw [h.wt]; exact hk)
  · cases (m.at k).isSome <;> simp
  · rw [hw hb]; simp
theorem first_least {n : Nat} {m : Vs} {r : Int} (h : GoodS n m) (hf : FirstOne (stL n m) r) : (∃ j : Nat, r = (j : Int) ∧ leastS m.wt = some j) ∨ (r = -1 ∧ leastS m.wt = none) := by
  rcases hf with ⟨k, rfl, h1, h2⟩ | ⟨rfl, h2⟩
  · have hk : k < n := by have := (List.getElem?_eq_some_iff.1 h1).1; rwa [stL_length] at this
    refine .inl ⟨k, rfl, least_of _ _ ((st_one h hk).1 h1) fun j hj => ?_⟩
    have hj' : j < m.wt.length := by rw [h.wt]; omega
    rw [List.getElem?_eq_getElem hj']
    cases hb : m.wt[j]
    · rfl
    · exact absurd ((st_one h (by omega)).2 (by rw [List.getElem?_eq_getElem hj', hb])) (h2 j hj)
  · refine .inr ⟨rfl, least_of_none _ fun j hj => ?_⟩
    rw [List.getElem?_eq_getElem hj]
    cases hb : m.wt[j]
    · rfl
    · exact absurd ((st_one h (by rw [h.wt] at hj; exact hj)).2 (by rw [List.getElem?_eq_getElem hj, hb])) (h2 j)
theorem st_off {n j : Nat} {m : Vs} (h : GoodS n m) (hj : m.wt[j]? = some true) : (stL n m).set j 2 = stL n (offS m j) := by
  have hjn : j < n := by have := (List.getElem?_eq_some_iff.1 hj).1; rwa [h.wt] at this
  refine List.ext_getElem? fun i => ?_
  rcases Nat.lt_or_ge i n with hi | hi
  · rw [List.getElem?_set, stL_get _ hi, stL_get _ hi]
    have hsome : (m.at j).isSome = true := h.wait j (by rw [List.getD_eq_getElem?_getD, hj]; rfl)
    by_cases e : j = i
    · subst e
      rw [if_pos rfl, if_pos (by rw [stL_length]; exact hjn)]
      unfold stV offS
      show _ = some (if (m.at j).isSome then (if (m.wt.set j false).getD j false then 1 else 2) else 0)
      have e1 : (m.wt.set j false).getD j false = false := by rw [getD_set, if_pos ⟨rfl, by rw [h.wt]; exact hjn⟩]
      rw [hsome, e1]; rfl
    · rw [if_neg e]
      unfold stV offS
      show _ = some (if (m.at i).isSome then (if (m.wt.set j false).getD i false then 1 else 2) else 0)
      have e1 : (m.wt.set j false).getD i false = m.wt.getD i false := by rw [getD_set, if_neg (fun h => e h.1)]
      rw [e1]
  · rw [List.getElem?_eq_none (by simp [stL_length]; exact hi), List.getElem?_eq_none (by rw [stL_length]; exact hi)]
theorem st_on {n j : Nat} {m : Vs} {s : Stk} (h : GoodS n m) (hj : j < n) : (stL n m).set j 1 = stL n ⟨m.rs.set j (some s), m.wt.set j true, m.dp⟩ := by
  refine List.ext_getElem? fun i => ?_
  rcases Nat.lt_or_ge i n with hi | hi
  · rw [List.getElem?_set, stL_get _ hi, stL_get _ hi]
    unfold stV Vs.at
    dsimp only
    by_cases e : j = i
    · subst e
      have e1 : (m.rs.set j (some s)).getD j none = some s := by rw [getD_set, if_pos ⟨rfl, by rw [h.rs]; exact hj⟩]
      have e2 : (m.wt.set j true).getD j false = true := by rw [getD_set, if_pos ⟨rfl, by rw [h.wt]; exact hj⟩]
      rw [if_pos rfl, if_pos (by rw [stL_length]; exact hj), e1, e2]; rfl
    · have e1 : (m.rs.set j (some s)).getD i none = m.rs.getD i none := by rw [getD_set, if_neg (fun h => e h.1)]
      have e2 : (m.wt.set j true).getD i false = m.wt.getD i false := by rw [getD_set, if_neg (fun h => e h.1)]
      rw [if_neg e, e1, e2]
  · rw [List.getElem?_eq_none (by simp [stL_length]; exact hi), List.getElem?_eq_none (by rw [stL_length]; exact hi)]
theorem st_zero {n j : Nat} {m : Vs} (h : (stL n m)[j]? = some 0) : m.at j = none := by
  have hj : j < n := by have := (List.getElem?_eq_some_iff.1 h).1; rwa [stL_length] at this
  rw [stL_get m hj] at h
  have h := Option.some.inj h
  unfold stV at h
  cases ha : m.at j with
  | none => rfl
  | some s => rw [ha] at h; simp only [Option.isSome_some, if_true] at h; split at h <;> cases h
theorem st_pos {j : Nat} {m : Vs} (h : stV m j ≠ 0) : ∃ s, m.at j = some s := by
  unfold stV at h
  cases ha : m.at j with
  | none => rw [ha] at h; exact absurd rfl h
  | some s => exact ⟨s, rfl⟩
theorem st_start {n : Nat} (h : 0 < n) : stL n (startS n) = (List.replicate n 0).set 0 1 := by
  refine List.ext_getElem? fun i => ?_
  rcases Nat.lt_or_ge i n with hi | hi
  · rw [stL_get _ hi, List.getElem?_set]
    unfold stV startS Vs.at
    dsimp only
    by_cases e : i = 0
    · subst e
      have e1 : ((List.replicate n (none : Option Stk)).set 0 (some [])).getD 0 none = some [] := by rw [getD_set, if_pos ⟨rfl, by simpa using h⟩]
      have e2 : ((List.replicate n false).set 0 true).getD 0 false = true := by rw [getD_set, if_pos ⟨rfl, by simpa using h⟩]
      rw [e1, e2, if_pos (rfl : 0 = 0), if_pos (show 0 < (List.replicate n (0 : Int)).length by rw [List.length_replicate]; exact h)]; rfl
    · have e1 : ((List.replicate n (none : Option Stk)).set 0 (some [])).getD i none = none := by
        rw [getD_set, if_neg (fun h => e h.1.symm), List.getD_eq_getElem?_getD, List.getElem?_replicate, if_pos hi]; rfl
      rw [e1, if_neg (show ¬ 0 = i from fun h => e h.symm), List.getElem?_replicate, if_pos hi]; rfl
  · rw [List.getElem?_eq_none (by rw [stL_length]; exact hi), List.getElem?_eq_none (by simpa using hi)]
theorem least_start {n : Nat} (h : 0 < n) : leastS (startS n).wt = some 0 := by
  obtain ⟨k, rfl⟩ : ∃ k, n = k + 1 := ⟨n - 1, by omega⟩
  show leastS ((List.replicate (k + 1) false).set 0 true) = some 0
  rw [List.replicate_succ]; rfl
end Go.Proofs.YtlckedionmgjjaaDoor
namespace Go.Proofs.YtlckedionmgjjaaDoor
open Go.RowKit
/-- the first k of a list are cells, none twice -/
def lnP (n : Nat) (l : List Int) (k : Nat) : Prop := ∀ i, i < k → ∃ x, l[i]? = some x ∧ 0 ≤ x ∧ x < (n : Int) ∧ ∀ j, j < i → l[j]? ≠ some x
theorem line_iff (n : Nat) : ∀ (l s : List Int), lineB n s l = true ↔ (∀ i, i < l.length → ∃ x, l[i]? = some x ∧ 0 ≤ x ∧ x < (n : Int) ∧ x ∉ s ∧ ∀ j, j < i → l[j]? ≠ some x)
  | [], s => ⟨fun _ i hi => absurd hi (Nat.not_lt_zero _), fun _ => rfl⟩
  | c :: r, s => by
    have e : lineB n s (c :: r) = (inB c n && (!(s.contains c) && lineB n (c :: s) r)) := rfl
    rw [e]
    simp only [Bool.and_eq_true, Bool.not_eq_true', line_iff n r (c :: s)]
    have hin : inB c n = true ↔ 0 ≤ c ∧ c < (n : Int) := by unfold inB; simp
    rw [hin]
    have hcs : s.contains c = false ↔ c ∉ s := by
      rw [← Bool.not_eq_true, List.contains_iff_mem]
    rw [hcs]
    constructor
    · rintro ⟨⟨h0, h1⟩, h2, h3⟩ i hi
      cases i with
      | zero => exact ⟨c, rfl, h0, h1, h2, fun j hj => absurd hj (Nat.not_lt_zero _)⟩
      | succ i =>
        obtain ⟨x, hx, g0, g1, g2, g3⟩ := h3 i (by simpa using hi)
        refine ⟨x, hx, g0, g1, fun h => g2 (List.mem_cons_of_mem _ h), fun j hj => ?_⟩
        cases j with
        | zero => intro h; exact g2 (by rw [show x = c from (Option.some.inj h).symm]; exact List.mem_cons_self)
        | succ j => exact g3 j (by omega)
    · intro h
      obtain ⟨x, hx, g0, g1, g2, -⟩ := h 0 (by simp)
      obtain rfl := Option.some.inj hx
      refine ⟨⟨g0, g1⟩, g2, fun i hi => ?_⟩
      obtain ⟨y, hy, k0, k1, k2, k3⟩ := h (i + 1) (by simpa using hi)
      refine ⟨y, hy, k0, k1, fun hm => ?_, fun j hj => ?_⟩
      · rcases List.mem_cons.1 hm with rfl | hm
        · exact k3 0 (by omega) rfl
        · exact k2 hm
      · exact k3 (j + 1) (by omega)
theorem line_lnP (n : Nat) (l : List Int) : lineB n [] l = true ↔ lnP n l l.length := by
  rw [line_iff]
  unfold lnP
  constructor
  · intro h i hi
    obtain ⟨x, h1, h2, h3, -, h5⟩ := h i hi
    exact ⟨x, h1, h2, h3, h5⟩
  · intro h i hi
    obtain ⟨x, h1, h2, h3, h5⟩ := h i hi
    exact ⟨x, h1, h2, h3, fun hm => (by cases hm), h5⟩
theorem lnP_next {n : Nat} {l : List Int} {k : Nat} {x : Int} (h : lnP n l k) (hx : l[k]? = some x) (h0 : 0 ≤ x) (h1 : x < (n : Int)) (h2 : ∀ j, j < k → l[j]? ≠ some x) : lnP n l (k + 1) := fun i hi => by
  by_cases e : i = k
  · subst e; exact ⟨x, hx, h0, h1, h2⟩
  · exact h i (by omega)
theorem line_false {n : Nat} {l : List Int} (h : ¬ lnP n l l.length) : lineB n [] l = false := by
  cases hb : lineB n [] l with
  | false => rfl
  | true => exact absurd ((line_lnP n l).1 hb) h
end Go.Proofs.YtlckedionmgjjaaDoor
