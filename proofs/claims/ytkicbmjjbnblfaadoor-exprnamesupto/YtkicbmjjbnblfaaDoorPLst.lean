/- Slices of parts that read as a list. -/
import Derived.Test.YtkicbmjjbnblfaaDoorEmW
import Derived.OwnWalk
namespace Go.Proofs.YtkicbmjjbnblfaaDoor
open Go.RowKit
/-- a part as its five cells have it -/
structure Pv where
  k : Int
  n : Int
  t : Int
  s : ByteArray
  f : ByteArray
def pvC (x : Pv) : List Value := [.int .i64 x.k, .int .i64 x.n, .int .i64 x.t, .string x.s, .string x.f]
def pvsC : List Pv → List Value
  | [] => []
  | x :: l => pvC x ++ pvsC l
theorem pvsC_append (a b : List Pv) : pvsC (a ++ b) = pvsC a ++ pvsC b := by
  induction a with
  | nil => rfl
  | cons x a ih => rw [List.cons_append, pvsC, pvsC, ih, List.append_assoc]
theorem pvsC_length (l : List Pv) : (pvsC l).length = l.length * 5 := by
  induction l with
  | nil => rfl
  | cons x l ih => rw [pvsC, List.length_append, ih, List.length_cons]; show 5 + _ = _; omega
theorem pvsC_get (l : List Pv) : ∀ (i j : Nat) (h : i < l.length), j < 5 → (pvsC l)[i * 5 + j]? = (pvC l[i])[j]? := by
  induction l with
  | nil => intro i j h; exact absurd h (Nat.not_lt_zero _)
  | cons x l ih =>
    intro i j h hj
    match i with
    | 0 => rw [pvsC, List.getElem?_append_left (by show 0 * 5 + j < 5; omega), Nat.zero_mul, Nat.zero_add]; rfl
    | i + 1 =>
      rw [pvsC, List.getElem?_append_right (by show 5 ≤ _; omega)]
      show (pvsC l)[(i + 1) * 5 + j - 5]? = (pvC (l[i]'(by simpa using h)))[j]?
      rw [show (i + 1) * 5 + j - 5 = i * 5 + j from by omega]
      exact ih i j (by simpa using h) hj
theorem pvsC_one (l : List Pv) : ∀ u ∈ pvsC l, u.oneCell' = true := by
  induction l with
  | nil => intro u hu; cases hu
  | cons x l ih =>
    intro u hu
    rcases List.mem_append.1 hu with h | h
    · simp only [pvC, List.mem_cons, List.not_mem_nil, or_false] at h
      rcases h with rfl | rfl | rfl | rfl | rfl <;> rfl
    · exact ih u h
/-- the tokens l lie at a place -/
def PvAt (w : World) (b off : Nat) (l : List Pv) : Prop :=
  ∀ i x, l[i]? = some x → w.cell? ⟨b, off + i * 5, none⟩ = some (.int .i64 x.k) ∧ w.cell? ⟨b, off + i * 5 + 1, none⟩ = some (.int .i64 x.n) ∧ w.cell? ⟨b, off + i * 5 + 2, none⟩ = some (.int .i64 x.t) ∧ w.cell? ⟨b, off + i * 5 + 3, none⟩ = some (.string x.s) ∧ w.cell? ⟨b, off + i * 5 + 4, none⟩ = some (.string x.f)
/-- a slice that reads as l -/
def PLst (w : World) (v : Value) (l : List Pv) : Prop :=
  ∃ (a : Option Addr) (b off cap : Nat), v = .slice a l.length cap ∧ (0 < l.length → b < w.heap.size ∧ a = some ⟨b, off, none⟩) ∧ PvAt w b off l
theorem PLst.below {w w' : World} {v : Value} {l : List Pv} {B : Nat} (h : PLst w v l) (hb : Below B w w') (hB : w.heap.size ≤ B) : PLst w' v l := by
  obtain ⟨a, b, off, cap, rfl, hb0, hI⟩ := h
  refine ⟨a, b, off, cap, rfl, fun h => ⟨by have := hb.size; have := (hb0 h).1; omega, (hb0 h).2⟩, fun i x hx => ?_⟩
  have hlt : b < B := by have := (hb0 (by have := (List.getElem?_eq_some_iff.1 hx).1; omega)).1; omega
  obtain ⟨h1, h2, h3, h4, h5⟩ := hI i x hx
  exact ⟨(hb.cell (p := ⟨b, _, none⟩) hlt).trans h1, (hb.cell (p := ⟨b, _, none⟩) hlt).trans h2, (hb.cell (p := ⟨b, _, none⟩) hlt).trans h3, (hb.cell (p := ⟨b, _, none⟩) hlt).trans h4, (hb.cell (p := ⟨b, _, none⟩) hlt).trans h5⟩
theorem PLst.of_owns {w : World} {base : Nat} {v : Value} {l : List Pv} (h : w.ownsRow base 46 5 v l.length (pvsC l)) : PLst w v l := by
  rcases h.2 with ⟨rfl, h0⟩ | ⟨g, cap, cur, rfl, hb, hg, hn, hm, hc, ht⟩
  · have hl : l = [] := List.eq_nil_of_length_eq_zero h0
    subst hl
    exact ⟨none, 0, 0, 0, rfl, fun h => absurd h (Nat.lt_irrefl 0), fun i x hx => by cases hx⟩
  · refine ⟨some ⟨g, 0, none⟩, g, 0, cap, rfl, fun _ => ⟨(Array.getElem?_eq_some_iff.1 hg).1, rfl⟩, fun i x hx => ?_⟩
    obtain ⟨hi, he⟩ := List.getElem?_eq_some_iff.1 hx
    have key : ∀ j, j < 5 → w.cell? ⟨g, i * 5 + j, none⟩ = (pvC x)[j]? := fun j hj => by
      rw [h.cellAt (i * 5 + j) (by omega), pvsC_get l i j hi hj, he]
    rw [Nat.zero_add]
    exact ⟨key 0 (by omega), key 1 (by omega), key 2 (by omega), key 3 (by omega), key 4 (by omega)⟩
theorem pv_cells {w : World} {b off : Nat} {l : List Pv} (h : PvAt w b off l) : ∀ j u, (pvsC l)[j]? = some u → w.cell? ((⟨b, off, none⟩ : Addr).add j) = some u := fun j u hu => by
  have hj : j < l.length * 5 := by rw [← pvsC_length]; exact (List.getElem?_eq_some_iff.1 hu).1
  have hi : j / 5 < l.length := by omega
  have e : (pvsC l)[j / 5 * 5 + j % 5]? = (pvC l[j / 5])[j % 5]? := pvsC_get l (j / 5) (j % 5) hi (by omega)
  rw [show j / 5 * 5 + j % 5 = j from by omega, hu] at e
  obtain ⟨h0, h1, h2, h3, h4⟩ := h (j / 5) _ (List.getElem?_eq_getElem hi)
  rw [Addr.add_mid]
  have hr : j % 5 = 0 ∨ j % 5 = 1 ∨ j % 5 = 2 ∨ j % 5 = 3 ∨ j % 5 = 4 := by omega
  rcases hr with r | r | r | r | r
  · rw [r] at e; rw [show off + j = off + j / 5 * 5 from by omega, h0]; exact e.symm
  · rw [r] at e; rw [show off + j = off + j / 5 * 5 + 1 from by omega, h1]; exact e.symm
  · rw [r] at e; rw [show off + j = off + j / 5 * 5 + 2 from by omega, h2]; exact e.symm
  · rw [r] at e; rw [show off + j = off + j / 5 * 5 + 3 from by omega, h3]; exact e.symm
  · rw [r] at e; rw [show off + j = off + j / 5 * 5 + 4 from by omega, h4]; exact e.symm
def ptV (x : Pv) : Pt := ⟨x.k, x.s.data.toList, x.f.data.toList, x.n, x.t⟩
theorem text_back (s : ByteArray) : (⟨s.data.toList.toArray⟩ : ByteArray) = s := by cases s; simp
theorem mayBe_v (x : Pv) (w : World) (hg : Glo w) : Calls Tryd.prog 31 #[.agg #[.int .i64 x.k, .int .i64 x.n, .int .i64 x.t, .string x.s, .string x.f]] w fun e w' => e = .returned (.bool (mayP (ptV x))) ∧ Below w.heap.size w w' := by
  have h := mayBe_any x.k x.n x.t x.s.data.toList x.f.data.toList w hg
  rw [text_back, text_back] at h
  exact h
theorem operands_v (x : Pv) (w : World) : Calls Tryd.prog 25 #[.agg #[.int .i64 x.k, .int .i64 x.n, .int .i64 x.t, .string x.s, .string x.f]] w fun e w' => e = .returned (.int .i64 ((takes (ptV x) : Nat) : Int)) ∧ Below w.heap.size w w' := operands_any x.k x.n x.t x.s x.f w
end Go.Proofs.YtkicbmjjbnblfaaDoor
