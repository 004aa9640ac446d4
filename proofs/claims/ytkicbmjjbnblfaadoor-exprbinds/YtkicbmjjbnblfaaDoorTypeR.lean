/- What the two readers of a typed number's value answer, in one form. -/
import Derived.Test.YtkicbmjjbnblfaaDoorTypeP
import Derived.Test.YtkicbmjjbnblfaaDoorTimeW
import Derived.Test.YtkicbmjjbnblfaaDoorLexB
namespace Go.Proofs.YtkicbmjjbnblfaaDoor
open Go.RowKit
/-- a value that was read, and what it is as a token of a type -/
def RVs (ty : Int) (l : Bs) (o : Option (Tk × Bs)) (n z : Int) (b : Bool) : Prop :=
  (b = true ∧ fitB ty n = true ∧ ∃ r, o = some (numT n ty, r) ∧ z = ((l.length - r.length : Nat) : Int)) ∨ ((b && fitB ty n) = false ∧ o = none)
theorem typedN_val {ty : Int} (ht : ty = 1 ∨ ty = 2 ∨ ty = 3) (l : Bs) : ∃ n z b, valOut l = .tuple #[.int .i64 n, .int .i64 z, .bool b] ∧ RVs ty l (typedN ty l) n z b ∧ (-4294967296 ≤ n ∧ n ≤ 4294967296) ∧ 0 ≤ z ∧ z ≤ (l.length : Int) := by
  by_cases hm : l.head? = some 45
  · obtain ⟨q, rfl⟩ : ∃ q, l = 45 :: q := by
      match l, hm with
      | c :: q, hm => injection hm with hm; exact ⟨q, by rw [hm]⟩
    have hv : valOut (45 :: q) = .tuple #[.int .i64 (-((pd 10 false 0 q).1 : Int)), .int .i64 ((1 + (q.length - (pd 10 false 0 q).2.length) : Nat) : Int), .bool (okP 10 q)] := by
      unfold valOut
      rw [if_pos hm]
      simp only [List.tail_cons]
    have hle := (pd_ge (base := 10) (by omega) q false 0 (by omega)).2
    refine ⟨_, _, _, hv, ?_, by omega, by omega, by simp; omega⟩
    unfold typedN
    rw [if_pos hm]
    simp only [List.tail_cons]
    rw [digs_num (by omega) (by omega) (by omega) (by omega)]
    unfold RVs
    rw [fit_L ht]
    by_cases hb : okP 10 q = true
    · by_cases hf : fitL ty (-((pd 10 false 0 q).1 : Int)) = true
      · have hr := fit_range5 hf
        rw [if_pos ⟨hb, by omega⟩]
        simp only [hf, if_true]
        left
        refine ⟨hb, trivial, _, rfl, ?_⟩
        have := pd_len 10 q false 0
        rw [List.length_cons]
        omega
      · right
        refine ⟨by rw [hb]; simpa using hf, ?_⟩
        split <;> simp_all
    · right
      refine ⟨by simp [hb], ?_⟩
      rw [if_neg (fun h => hb h.1)]
  · have hv : valOut l = .tuple #[.int .i64 ((pd 10 false 0 l).1 : Int), .int .i64 ((l.length - (pd 10 false 0 l).2.length : Nat) : Int), .bool (okP 10 l)] := by
      unfold valOut
      rw [if_neg hm]
      rfl
    have hle := (pd_ge (base := 10) (by omega) l false 0 (by omega)).2
    refine ⟨_, _, _, hv, ?_, by omega, by omega, by omega⟩
    unfold typedN
    rw [if_neg hm]
    rw [digs_num (by omega) (by omega) (by omega) (by omega)]
    unfold RVs
    rw [fit_L ht]
    by_cases hb : okP 10 l = true
    · by_cases hf : fitL ty ((pd 10 false 0 l).1 : Int) = true
      · have hr := fit_range5 hf
        rw [if_pos ⟨hb, by omega⟩]
        simp only [hf, if_true]
        left
        exact ⟨hb, trivial, _, rfl, rfl⟩
      · right
        refine ⟨by rw [hb]; simpa using hf, ?_⟩
        split <;> simp_all
    · right
      refine ⟨by simp [hb], ?_⟩
      rw [if_neg (fun h => hb h.1)]
theorem typedT_val (l : Bs) {v : Value} (h : TvOut l (timeP 6 0 0 l) v) : ∃ n z b, v = .tuple #[.int .i64 n, .int .i64 z, .bool b] ∧ RVs 4 l ((timeL 6 0 0 l).map fun x => (numT x.1 4, x.2)) n z b := by
  rw [time_pd 6 0 0 l (by omega)]
  unfold TvOut at h
  cases ht : timeP 6 0 0 l with
  | none =>
    rw [ht] at h
    obtain ⟨n, k, rfl⟩ := h
    exact ⟨n, k, false, rfl, .inr ⟨rfl, rfl⟩⟩
  | some x =>
    obtain ⟨m, r⟩ := x
    rw [ht] at h
    refine ⟨_, _, _, h, ?_⟩
    unfold RVs
    rw [fit_T]
    by_cases hm : m < 2147483648
    · left
      simp only [if_pos hm]
      exact ⟨trivial, decide_eq_true hm, r, rfl, rfl⟩
    · right
      simp only [if_neg hm]
      exact ⟨by rw [decide_eq_false hm]; rfl, rfl⟩
def tyNames : List Bs := [[66, 79, 79, 76], [73, 78, 84], [68, 73, 78, 84], [84], [84, 73, 77, 69]]
def tyNos : List Int := [1, 2, 3, 4, 4]
theorem ty_tab (k : Nat) (h : k < 5) : tyTab.toArray.extract (k * 2) (k * 2 + 2) = #[.string ⟨(tyNames[k]'h).toArray⟩, .int .i64 (tyNos[k]'h)] := by
  have : k = 0 ∨ k = 1 ∨ k = 2 ∨ k = 3 ∨ k = 4 := by omega
  rcases this with rfl | rfl | rfl | rfl | rfl <;> rfl
theorem ty_at (k : Nat) (h : k < 5) (l : Bs) : typedL (tyNames[k]'h) l = if tyNos[k]'h = 4 then (timeL 6 0 0 l).map fun x => (numT x.1 4, x.2) else typedN (tyNos[k]'h) l := by
  have : k = 0 ∨ k = 1 ∨ k = 2 ∨ k = 3 ∨ k = 4 := by omega
  rcases this with rfl | rfl | rfl | rfl | rfl <;> simp [typedL, tyNames, tyNos]
theorem ty_no (k : Nat) (h : k < 5) : (tyNos[k]'h) = 4 ∨ (tyNos[k]'h) = 1 ∨ (tyNos[k]'h) = 2 ∨ (tyNos[k]'h) = 3 := by
  have : k = 0 ∨ k = 1 ∨ k = 2 ∨ k = 3 ∨ k = 4 := by omega
  rcases this with rfl | rfl | rfl | rfl | rfl <;> simp [tyNos]
theorem ty_none {name : Bs} (h : name ∉ tyNames) (l : Bs) : typedL name l = none := by
  simp only [tyNames, List.mem_cons, List.not_mem_nil, or_false, not_or] at h
  obtain ⟨h1, h2, h3, h4, h5⟩ := h
  unfold typedL
  rw [if_neg (by rintro (e | e) <;> contradiction), if_neg h1, if_neg h2, if_neg h3]
end Go.Proofs.YtkicbmjjbnblfaaDoor
