/- Lists in memory, and plain facts on a list's beginning. -/
import Derived.Test.YtmbgcpmapaedcaaDoorWiAppW
namespace Go.Proofs.YtmbgcpmapaedcaaDoor.Wi
open Go.RowKit
/-- the items l lie at a place -/
def ItsAt (w : World) (b off : Nat) (l : List It) : Prop :=
  ∀ i x, l[i]? = some x → w.cell? ⟨b, off + i * 3, none⟩ = some (.bool x.t) ∧ w.cell? ⟨b, off + i * 3 + 1, none⟩ = some (.int .i64 x.n) ∧ w.cell? ⟨b, off + i * 3 + 2, none⟩ = some (.string x.s)
/-- a slice that reads as l -/
def Lst (w : World) (v : Value) (l : List It) : Prop :=
  ∃ (a : Option Addr) (b off cap : Nat), v = .slice a l.length cap ∧ (0 < l.length → b < w.heap.size ∧ a = some ⟨b, off, none⟩) ∧ ItsAt w b off l
/-- a list is not beyond what memory has, its numbers are numbers of 64 bits -/
def okL (l : List It) : Prop := l.length ≤ 4398046510976 ∧ ∀ x ∈ l, fits x
theorem Lst.below {w w' : World} {v : Value} {l : List It} {B : Nat} (h : Lst w v l) (hb : Below B w w') (hB : w.heap.size ≤ B) : Lst w' v l := by
  obtain ⟨a, b, off, cap, rfl, hb0, hI⟩ := h
  refine ⟨a, b, off, cap, rfl, fun h => ⟨by have := hb.size; have := (hb0 h).1; omega, (hb0 h).2⟩, fun i x hx => ?_⟩
  have hlt : b < B := by have := (hb0 (by have := (List.getElem?_eq_some_iff.1 hx).1; omega)).1; omega
  obtain ⟨h1, h2, h3⟩ := hI i x hx
  exact ⟨(hb.cell (p := ⟨b, _, none⟩) hlt).trans h1, (hb.cell (p := ⟨b, _, none⟩) hlt).trans h2, (hb.cell (p := ⟨b, _, none⟩) hlt).trans h3⟩
theorem Lst.of_owns {w : World} {base : Nat} {v : Value} {l : List It} (h : w.ownsRow base 58 3 v l.length (itsC l)) : Lst w v l := by
  rcases h.2 with ⟨rfl, h0⟩ | ⟨g, cap, cur, rfl, hb, hg, hn, hm, hc, ht⟩
  · have hl : l = [] := List.eq_nil_of_length_eq_zero h0
    subst hl
    exact ⟨none, 0, 0, 0, rfl, fun h => absurd h (Nat.lt_irrefl 0), fun i x hx => by cases hx⟩
  · refine ⟨some ⟨g, 0, none⟩, g, 0, cap, rfl, fun _ => ⟨(Array.getElem?_eq_some_iff.1 hg).1, rfl⟩, fun i x hx => ?_⟩
    obtain ⟨hi, he⟩ := List.getElem?_eq_some_iff.1 hx
    have key : ∀ j, j < 3 → w.cell? ⟨g, i * 3 + j, none⟩ = (itC x)[j]? := fun j hj => by
      rw [h.cellAt (i * 3 + j) (by omega), itsC_get l i j hi hj, he]
    rw [Nat.zero_add]
    exact ⟨key 0 (by omega), key 1 (by omega), key 2 (by omega)⟩
theorem allMay_take (l : List It) (k : Nat) (x : It) (h : l[k]? = some x) : allMay (l.take (k + 1)) = (allMay (l.take k) && mayB x) := by
  obtain ⟨hk, he⟩ := List.getElem?_eq_some_iff.1 h
  rw [List.take_succ_eq_append_getElem hk, allMay_append, he]
  simp [allMay]
theorem bodyB_take (l : List It) (k : Nat) (x : It) (h : l[k]? = some x) : bodyB (l.take (k + 1)) = bodyB (l.take k) ++ oneB x := by
  obtain ⟨hk, he⟩ := List.getElem?_eq_some_iff.1 h
  rw [List.take_succ_eq_append_getElem hk, bodyB_append, he]
  simp [bodyB]
theorem allMay_false (l : List It) (k : Nat) (x : It) (h : l[k]? = some x) (hm : mayB x = false) : allMay l = false := by
  have h1 := allMay_take l k x h
  rw [hm, Bool.and_false] at h1
  have h2 := allMay_append (l.take (k + 1)) (l.drop (k + 1))
  rw [List.take_append_drop, h1, Bool.false_and] at h2
  exact h2
theorem may_size {x : It} (h : mayB x = true) : x.s.size ≤ 65535 := by
  obtain ⟨t, n, u⟩ := x
  cases t with
  | true =>
    have h : decide (n = 0) = true ∧ decide (u.size ≤ 65535) = true := by simpa only [mayB, if_true, Bool.and_eq_true] using h
    exact of_decide_eq_true h.2
  | false =>
    have h : u.size = 0 := of_decide_eq_true (show decide (u.size = 0) = true from h)
    show u.size ≤ 65535
    omega
theorem ib_le {x : It} (h : mayB x = true) : ib x ≤ 65538 := by
  have := may_size h
  unfold ib
  split <;> omega
theorem body_le (l : List It) (h : allMay l = true) : (bodyB l).length ≤ 65538 * l.length := by
  induction l with
  | nil => simp [bodyB]
  | cons x l ih =>
    simp only [allMay, Bool.and_eq_true] at h
    have h1 := ib_le h.1
    have h2 := ih h.2
    rw [bodyB, List.length_append, oneB_length, List.length_cons]
    omega
theorem body_mono (l : List It) (k : Nat) : (bodyB (l.take k)).length ≤ (bodyB l).length := by
  have h := bodyB_append (l.take k) (l.drop k)
  rw [List.take_append_drop] at h
  rw [h, List.length_append]; omega
theorem encE_long {l : List It} (h : 1000 < l.length) : encE l = 2 ∧ encL l = [] := by
  have e : encE l = 2 := by unfold encE; rw [if_pos h]
  exact ⟨e, by unfold encL; rw [e]; rfl⟩
theorem encE_shape {l : List It} (h1 : ¬ 1000 < l.length) (h : allMay l = false) : encE l = 4 ∧ encL l = [] := by
  have e : encE l = 4 := by unfold encE; rw [if_neg h1, if_pos h]
  exact ⟨e, by unfold encL; rw [e]; rfl⟩
theorem encE_big {l : List It} (h1 : ¬ 1000 < l.length) (h : allMay l = true) (h2 : 65536 < 2 + (bodyB l).length) : encE l = 2 ∧ encL l = [] := by
  have e : encE l = 2 := by unfold encE; rw [if_neg h1, if_neg (by rw [h]; decide), if_pos (by rw [bytesB_length]; exact h2)]
  exact ⟨e, by unfold encL; rw [e]; rfl⟩
theorem encE_fine {l : List It} (h1 : ¬ 1000 < l.length) (h : allMay l = true) (h2 : ¬ 65536 < 2 + (bodyB l).length) : encE l = 0 ∧ encL l = two l.length ++ bodyB l := by
  have e : encE l = 0 := encE_of (by omega) h (by rw [bytesB_length]; omega)
  exact ⟨e, by unfold encL; rw [if_pos e]; rfl⟩
end Go.Proofs.YtmbgcpmapaedcaaDoor.Wi
