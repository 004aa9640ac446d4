/- Slices of ints that read as a list; the contracts of Count, the program's and the document's. -/
import Derived.Test.YthifgfhgkdjkfaaDoorUnW
import Derived.OwnWalk
import Derived.Deep.DeepAppendWide
import Derived.Deep.QuietTactic
import Derived.BigQuiet
import Derived.Deep.DeepMust
namespace Go.Proofs.YthifgfhgkdjkfaaDoor
open Go.RowKit
attribute [local go_sem] run_store_complex run_store_float unary_neg_float
def intC (l : List Int) : List Value := l.map fun x => .int .i64 x
theorem intC_length (l : List Int) : (intC l).length = l.length := by rw [intC, List.length_map]
theorem intC_append (a b : List Int) : intC (a ++ b) = intC a ++ intC b := List.map_append
theorem intC_get (l : List Int) (i : Nat) : (intC l)[i]? = (l[i]?).map fun x => .int .i64 x := by rw [intC, List.getElem?_map]
theorem intC_one (l : List Int) : ∀ u ∈ intC l, u.oneCell' = true := fun u hu => by
  obtain ⟨d, _, rfl⟩ := List.mem_map.1 hu; rfl
/-- a slice that reads as a list -/
def ILst (w : World) (v : Value) (l : List Int) : Prop :=
  ∃ a b off cap, v = .slice a l.length cap ∧ (0 < l.length → b < w.heap.size ∧ a = some ⟨b, off, none⟩) ∧ ∀ i x, l[i]? = some x → w.cell? ⟨b, off + i, none⟩ = some (.int .i64 x)
theorem ILst.on {w w' : World} {v : Value} {l : List Int} (h : ILst w v l) (hb : Below w.heap.size w w') : ILst w' v l := by
  obtain ⟨a, b, off, cap, rfl, hA, hI⟩ := h
  refine ⟨a, b, off, cap, rfl, fun h => ⟨Nat.lt_of_lt_of_le (hA h).1 hb.size, (hA h).2⟩, fun i x hx => ?_⟩
  have hlt : b < w.heap.size := (hA (Nat.lt_of_le_of_lt (Nat.zero_le _) (List.getElem?_eq_some_iff.1 hx).1)).1
  exact (hb.cell (p := ⟨b, off + i, none⟩) hlt).trans (hI i x hx)
theorem ILst.nil (w : World) (c : Nat) : ILst w (.slice none 0 c) [] := ⟨none, 0, 0, c, rfl, fun h => absurd h (Nat.lt_irrefl 0), fun i x hx => by cases hx⟩
theorem ILst.of_owns {w : World} {base : Nat} {v : Value} {l : List Int} (h : w.ownsRow base 3 1 v l.length (intC l)) : ILst w v l := by
  rcases h.2 with ⟨hv, h0⟩ | ⟨g, cap, cur, hv, hb, hg, hn, hm, hc, ht⟩
  · obtain rfl := List.eq_nil_of_length_eq_zero h0
    subst hv
    exact ILst.nil w 0
  · subst hv
    refine ⟨_, g, 0, cap, rfl, fun _ => ⟨?_, rfl⟩, fun i x hx => ?_⟩
    · exact (Array.getElem?_eq_some_iff.1 hg).1
    · have hi : i < l.length := (List.getElem?_eq_some_iff.1 hx).1
      rw [Nat.zero_add, h.cellAt i (by omega), intC_get, hx]; rfl
theorem ILst.shape {w : World} {v : Value} {l : List Int} (h : ILst w v l) : ∃ a cap, v = .slice a l.length cap := by
  obtain ⟨a, b, off, cap, rfl, _⟩ := h
  exact ⟨a, cap, rfl⟩
/-- the places of a list, and the sum of the steps between the first k of them, and how often it jumped -/
def gt (l : List Int) (k : Nat) : Nat := (l.getD k 0).toNat
def sS (l : List Int) : Nat → Int
  | 0 => 0
  | 1 => 0
  | k + 2 => sS l (k + 1) + stp (gt l k) (gt l (k + 1))
def sJ (l : List Int) : Nat → Nat
  | 0 => 0
  | 1 => 0
  | k + 2 => sJ l (k + 1) + (if jmp (gt l k) (gt l (k + 1)) then 1 else 0)
theorem stp_in (m n : Nat) : -1 ≤ stp m n ∧ stp m n ≤ 1 := by unfold stp; repeat' split
                                                              all_goals omega
theorem sS_in (l : List Int) : ∀ k : Nat, -(k : Int) ≤ sS l k ∧ sS l k ≤ (k : Int)
  | 0 => by rw [sS]; omega
  | 1 => by rw [sS]; omega
  | k + 2 => by
    have h := sS_in l (k + 1)
    have h2 := stp_in (gt l k) (gt l (k + 1))
    rw [sS]
    omega
theorem sJ_in (l : List Int) : ∀ k : Nat, sJ l k ≤ k
  | 0 => by rw [sJ]; omega
  | 1 => by rw [sJ]; omega
  | k + 2 => by
    have h := sJ_in l (k + 1)
    rw [sJ]
    split <;> omega
theorem gt_at {l : List Int} {k : Nat} {x : Int} (h : l[k]? = some x) : gt l k = x.toNat := by unfold gt; rw [List.getD_eq_getElem?_getD, h]; rfl
/-- what Count answers -/
def cntV (l : List Int) : Int × Int × Int := if l.all isP then (sS l l.length, (sJ l l.length : Int), 0) else (0, 0, 1)
theorem all_take {l : List Int} {k : Nat} {x : Int} (h : (l.take k).all isP = true) (hx : l[k]? = some x) (h2 : isP x = true) : (l.take (k + 1)).all isP = true := by
  obtain ⟨hk, rfl⟩ := List.getElem?_eq_some_iff.1 hx
  rw [List.take_succ_eq_append_getElem hk, List.all_append, h, Bool.true_and, List.all_cons, h2]; rfl
theorem all_no {l : List Int} {k : Nat} {x : Int} (hx : l[k]? = some x) (h2 : isP x = false) : l.all isP = false := by
  rw [List.all_eq_false]
  exact ⟨x, List.mem_of_getElem? hx, by rw [h2]; decide⟩
end Go.Proofs.YthifgfhgkdjkfaaDoor
