/- Lists of tokens in memory, cell by cell. -/
import Derived.Test.YtfcnbiikjopajaaDoorWorksW
namespace Go.Proofs.YtfcnbiikjopajaaDoor
open Go.RowKit
theorem tkC_len (L : Nat) (x : Tk × Nat) : (tkC L x).length = 5 := rfl
theorem tksC_at (L : Nat) : ∀ (ts : List (Tk × Nat)) (i j : Nat) (h : i < ts.length), j < 5 → (tksC L ts)[i * 5 + j]? = (tkC L (ts[i]'h))[j]?
  | [], i, j, h, _ => by simp at h
  | x :: ts, 0, j, h, hj => by
    show (tkC L x ++ tksC L ts)[0 * 5 + j]? = _
    rw [Nat.zero_mul, Nat.zero_add, List.getElem?_append_left (by rw [tkC_len]; exact hj)]
    rfl
  | x :: ts, i + 1, j, h, hj => by
    show (tkC L x ++ tksC L ts)[(i + 1) * 5 + j]? = _
    rw [List.getElem?_append_right (by rw [tkC_len]; omega), tkC_len, show (i + 1) * 5 + j - 5 = i * 5 + j by omega]
    exact tksC_at L ts i j (by simpa using h) hj
/-- a list of tokens lies in a block -/
def TkAt (w : World) (g L : Nat) (ts : List (Tk × Nat)) : Prop := ∀ i (h : i < ts.length), w.cell? ⟨g, i * 5, none⟩ = some (.int .i64 (ts[i]'h).1.kind) ∧ w.cell? ⟨g, i * 5 + 1, none⟩ = some (.string ⟨(ts[i]'h).1.s.toArray⟩) ∧ w.cell? ⟨g, i * 5 + 2, none⟩ = some (.int .i64 (ts[i]'h).1.n) ∧ w.cell? ⟨g, i * 5 + 3, none⟩ = some (.int .i64 (ts[i]'h).1.ty) ∧ w.cell? ⟨g, i * 5 + 4, none⟩ = some (.int .i64 ((L - (ts[i]'h).2 : Nat) : Int))
theorem TkAt.of_owns {w : World} {base : Nat} {v : Value} {L : Nat} {ts : List (Tk × Nat)} (h : w.ownsRow base 41 5 v ts.length (tksC L ts)) (hn : 0 < ts.length) : ∃ g cap, v = .slice (some ⟨g, 0, none⟩) ts.length cap ∧ ts.length ≤ cap ∧ g < w.heap.size ∧ TkAt w g L ts := by
  obtain ⟨g, cap, h1, h2, h3, h4⟩ := owns_cell h hn
  refine ⟨g, cap, h1, h2, h3, fun i hi => ?_⟩
  have e := fun j (hj : j < 5) => tksC_at L ts i j hi hj
  exact ⟨h4 (i * 5) _ (by have := e 0 (by omega); rw [Nat.add_zero] at this; rw [this]; rfl), h4 _ _ (by rw [e 1 (by omega)]; rfl), h4 _ _ (by rw [e 2 (by omega)]; rfl), h4 _ _ (by rw [e 3 (by omega)]; rfl), h4 _ _ (by rw [e 4 (by omega)]; rfl)⟩
theorem TkAt.below {w w' : World} {g L : Nat} {ts : List (Tk × Nat)} {B : Nat} (h : TkAt w g L ts) (hb : Below B w w') (hg : g < B) : TkAt w' g L ts := fun i hi => by
  obtain ⟨a, b, c, d, e⟩ := h i hi
  exact ⟨(hb.cell (p := ⟨g, i * 5, none⟩) hg).trans a, (hb.cell (p := ⟨g, i * 5 + 1, none⟩) hg).trans b, (hb.cell (p := ⟨g, i * 5 + 2, none⟩) hg).trans c, (hb.cell (p := ⟨g, i * 5 + 3, none⟩) hg).trans d, (hb.cell (p := ⟨g, i * 5 + 4, none⟩) hg).trans e⟩
theorem lexes_pos {l : Bs} {ts : List (Tk × Nat)} (h : Lexes l ts) : 0 < ts.length := by
  obtain ⟨us, rfl⟩ := h.last
  simp
end Go.Proofs.YtfcnbiikjopajaaDoor
