/- Slices of tokens that read as a list. -/
import Derived.Test.YtfcnbiikjopajaaDoorLstP
namespace Go.Proofs.YtfcnbiikjopajaaDoor
open Go.RowKit
/-- a token as its five cells have it -/
structure Tv where
  k : Int
  s : ByteArray
  n : Int
  t : Int
  at_ : Int
def tvC (x : Tv) : List Value := [.int .i64 x.k, .string x.s, .int .i64 x.n, .int .i64 x.t, .int .i64 x.at_]
def tvsC : List Tv → List Value
  | [] => []
  | x :: l => tvC x ++ tvsC l
theorem tvsC_append (a b : List Tv) : tvsC (a ++ b) = tvsC a ++ tvsC b := by
  induction a with
  | nil => rfl
  | cons x a ih => rw [List.cons_append, tvsC, tvsC, ih, List.append_assoc]
theorem tvsC_length (l : List Tv) : (tvsC l).length = l.length * 5 := by
  induction l with
  | nil => rfl
  | cons x l ih => rw [tvsC, List.length_append, ih, List.length_cons]; show 5 + _ = _; omega
theorem tvsC_get (l : List Tv) : ∀ (i j : Nat) (h : i < l.length), j < 5 → (tvsC l)[i * 5 + j]? = (tvC l[i])[j]? := by
  induction l with
  | nil => intro i j h; exact absurd h (Nat.not_lt_zero _)
  | cons x l ih =>
    intro i j h hj
    match i with
    | 0 => rw [tvsC, List.getElem?_append_left (by show 0 * 5 + j < 5; omega), Nat.zero_mul, Nat.zero_add]; rfl
    | i + 1 =>
      rw [tvsC, List.getElem?_append_right (by show 5 ≤ _; omega)]
      show (tvsC l)[(i + 1) * 5 + j - 5]? = (tvC (l[i]'(by simpa using h)))[j]?
      rw [show (i + 1) * 5 + j - 5 = i * 5 + j from by omega]
      exact ih i j (by simpa using h) hj
theorem tvsC_one (l : List Tv) : ∀ u ∈ tvsC l, u.oneCell' = true := by
  induction l with
  | nil => intro u hu; cases hu
  | cons x l ih =>
    intro u hu
    rcases List.mem_append.1 hu with h | h
    · simp only [tvC, List.mem_cons, List.not_mem_nil, or_false] at h
      rcases h with rfl | rfl | rfl | rfl | rfl <;> rfl
    · exact ih u h
/-- the tokens of a text of L bytes -/
def tvOf (L : Nat) (x : Tk × Nat) : Tv := ⟨x.1.kind, ⟨x.1.s.toArray⟩, x.1.n, x.1.ty, ((L - x.2 : Nat) : Int)⟩
theorem tksC_tv (L : Nat) : ∀ ts : List (Tk × Nat), tksC L ts = tvsC (ts.map (tvOf L))
  | [] => rfl
  | x :: ts => by
    show tkC L x ++ tksC L ts = tvC (tvOf L x) ++ tvsC (ts.map (tvOf L))
    rw [tksC_tv L ts]; rfl
/-- the tokens l lie at a place -/
def TvAt (w : World) (b off : Nat) (l : List Tv) : Prop :=
  ∀ i x, l[i]? = some x → w.cell? ⟨b, off + i * 5, none⟩ = some (.int .i64 x.k) ∧ w.cell? ⟨b, off + i * 5 + 1, none⟩ = some (.string x.s) ∧ w.cell? ⟨b, off + i * 5 + 2, none⟩ = some (.int .i64 x.n) ∧ w.cell? ⟨b, off + i * 5 + 3, none⟩ = some (.int .i64 x.t) ∧ w.cell? ⟨b, off + i * 5 + 4, none⟩ = some (.int .i64 x.at_)
/-- a slice that reads as l -/
def Lst (w : World) (v : Value) (l : List Tv) : Prop :=
  ∃ (a : Option Addr) (b off cap : Nat), v = .slice a l.length cap ∧ (0 < l.length → b < w.heap.size ∧ a = some ⟨b, off, none⟩) ∧ TvAt w b off l
theorem Lst.below {w w' : World} {v : Value} {l : List Tv} {B : Nat} (h : Lst w v l) (hb : Below B w w') (hB : w.heap.size ≤ B) : Lst w' v l := by
  obtain ⟨a, b, off, cap, rfl, hb0, hI⟩ := h
  refine ⟨a, b, off, cap, rfl, fun h => ⟨by have := hb.size; have := (hb0 h).1; omega, (hb0 h).2⟩, fun i x hx => ?_⟩
  have hlt : b < B := by have := (hb0 (by have := (List.getElem?_eq_some_iff.1 hx).1; omega)).1; omega
  obtain ⟨h1, h2, h3, h4, h5⟩ := hI i x hx
  exact ⟨(hb.cell (p := ⟨b, _, none⟩) hlt).trans h1, (hb.cell (p := ⟨b, _, none⟩) hlt).trans h2, (hb.cell (p := ⟨b, _, none⟩) hlt).trans h3, (hb.cell (p := ⟨b, _, none⟩) hlt).trans h4, (hb.cell (p := ⟨b, _, none⟩) hlt).trans h5⟩
theorem Lst.of_owns {w : World} {base : Nat} {v : Value} {l : List Tv} (h : w.ownsRow base 41 5 v l.length (tvsC l)) : Lst w v l := by
  rcases h.2 with ⟨rfl, h0⟩ | ⟨g, cap, cur, rfl, hb, hg, hn, hm, hc, ht⟩
  · have hl : l = [] := List.eq_nil_of_length_eq_zero h0
    subst hl
    exact ⟨none, 0, 0, 0, rfl, fun h => absurd h (Nat.lt_irrefl 0), fun i x hx => by cases hx⟩
  · refine ⟨some ⟨g, 0, none⟩, g, 0, cap, rfl, fun _ => ⟨(Array.getElem?_eq_some_iff.1 hg).1, rfl⟩, fun i x hx => ?_⟩
    obtain ⟨hi, he⟩ := List.getElem?_eq_some_iff.1 hx
    have key : ∀ j, j < 5 → w.cell? ⟨g, i * 5 + j, none⟩ = (tvC x)[j]? := fun j hj => by
      rw [h.cellAt (i * 5 + j) (by omega), tvsC_get l i j hi hj, he]
    rw [Nat.zero_add]
    exact ⟨key 0 (by omega), key 1 (by omega), key 2 (by omega), key 3 (by omega), key 4 (by omega)⟩
theorem Lst.of_tks {w : World} {base L : Nat} {v : Value} {ts : List (Tk × Nat)} (h : w.ownsRow base 41 5 v ts.length (tksC L ts)) : Lst w v (ts.map (tvOf L)) := by
  apply Lst.of_owns (base := base)
  rw [← tksC_tv, List.length_map]
  exact h
theorem tv_cells {w : World} {b off : Nat} {l : List Tv} (h : TvAt w b off l) : ∀ j u, (tvsC l)[j]? = some u → w.cell? ((⟨b, off, none⟩ : Addr).add j) = some u := fun j u hu => by
  have hj : j < l.length * 5 := by rw [← tvsC_length]; exact (List.getElem?_eq_some_iff.1 hu).1
  have hi : j / 5 < l.length := by omega
  have e : (tvsC l)[j / 5 * 5 + j % 5]? = (tvC l[j / 5])[j % 5]? := tvsC_get l (j / 5) (j % 5) hi (by omega)
  rw [show j / 5 * 5 + j % 5 = j from by omega, hu] at e
  obtain ⟨h0, h1, h2, h3, h4⟩ := h (j / 5) _ (List.getElem?_eq_getElem hi)
  rw [Addr.add_mid]
  have hr : j % 5 = 0 ∨ j % 5 = 1 ∨ j % 5 = 2 ∨ j % 5 = 3 ∨ j % 5 = 4 := by omega
  rcases hr with r | r | r | r | r
  · rw [r] at e; rw [show off + j = off + j / 5 * 5 from by omega, h0]; exact e.symm
  · rw [r] at e; rw [show off + j = off + j / 5 * 5 + 1 from by omega, h1]; exact e.symm
  · rw [r] at e; rw [show off + j = off + j / 5 * 5 + 2 from by omega, h2]; exact e.symm
  · rw [r] at e; rw [show off + j = off + j / 5 * 5 + 3 from by omega, h3]; exact e.symm
  · rw [r] at e; rw [show off + j = off + j / 5 * 5 + 4 from by omega, h4]; exact e.symm
/-- the same but for their places -/
def core (x : Tv) : Int × ByteArray × Int × Int := (x.k, x.s, x.n, x.t)
end Go.Proofs.YtfcnbiikjopajaaDoor
