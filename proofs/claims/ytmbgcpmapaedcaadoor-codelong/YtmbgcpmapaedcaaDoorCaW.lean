/- typed: the fields of blocks; block.mayBe. -/
import Derived.Test.YtmbgcpmapaedcaaDoorLiW
import Derived.Deep.QuietTactic
namespace Go.Proofs.YtmbgcpmapaedcaaDoor
open Go.RowKit
/-- of each field its type, and whether it may be set -/
def fldK (k : Int) : List (Int × Bool) :=
  if k = 1 ∨ k = 2 ∨ k = 3 then [(1, true), (4, true), (1, false), (4, false), (4, false), (1, false)]
  else if k = 4 ∨ k = 5 then [(1, true), (1, true), (2, true), (1, false), (2, false), (1, false)]
  else if k = 6 ∨ k = 7 then [(1, true), (1, false), (1, false)]
  else if k = 8 ∨ k = 9 then [(1, true), (1, true), (1, false)]
  else if k = 10 then [(1, true), (1, true), (1, true), (3, false), (1, false), (2, false)] else []
theorem fldK_len (k : Int) : (fldK k).length ≤ 6 := by
  unfold fldK
  repeat' split
  all_goals decide
def FLst (w : World) (v : Value) (l : List (Int × Bool)) : Prop :=
  ∃ (a : Option Addr) (b cap : Nat), v = .slice a l.length cap ∧ (0 < l.length → b < w.heap.size ∧ a = some ⟨b, 0, none⟩) ∧
    ∀ i r, l[i]? = some r → ∃ s, w.cell? ⟨b, i * 3, none⟩ = some (.string s) ∧ w.cell? ⟨b, i * 3 + 1, none⟩ = some (.int .i64 r.1) ∧ w.cell? ⟨b, i * 3 + 2, none⟩ = some (.bool r.2)
theorem FLst.on {w w' : World} {v : Value} {l : List (Int × Bool)} (h : FLst w v l) (hb : Below w.heap.size w w') : FLst w' v l := by
  obtain ⟨a, b, cap, rfl, hb0, hI⟩ := h
  refine ⟨a, b, cap, rfl, fun h => ⟨by have := hb.size; have := (hb0 h).1; omega, (hb0 h).2⟩, fun i x hx => ?_⟩
  have hlt : b < w.heap.size := (hb0 (by have := (List.getElem?_eq_some_iff.1 hx).1; omega)).1
  obtain ⟨s, h1, h2, h3⟩ := hI i x hx
  exact ⟨s, (hb.cell (p := ⟨b, _, none⟩) hlt).trans h1, (hb.cell (p := ⟨b, _, none⟩) hlt).trans h2, (hb.cell (p := ⟨b, _, none⟩) hlt).trans h3⟩
/-- rows of cells that read so -/
def rowsOk : List Value → List (Int × Bool) → Prop
  | [], [] => True
  | .string _ :: .int .i64 t :: .bool b :: r, (t', b') :: l => t = t' ∧ b = b' ∧ rowsOk r l
  | _, _ => False
theorem rowsOk_get : ∀ (cs : List Value) (l : List (Int × Bool)), rowsOk cs l → ∀ i r, l[i]? = some r → ∃ s, cs[i * 3]? = some (.string s) ∧ cs[i * 3 + 1]? = some (.int .i64 r.1) ∧ cs[i * 3 + 2]? = some (.bool r.2)
  | [], [], _, i, r, h => by cases h
  | .string s :: .int .i64 t :: .bool b :: cs, (t', b') :: l, h, 0, r, hr => by
    obtain ⟨rfl, rfl, _⟩ := h
    obtain rfl := Option.some.inj (show some (t, b) = some r from hr)
    exact ⟨s, rfl, rfl, rfl⟩
  | .string s :: .int .i64 t :: .bool b :: cs, (t', b') :: l, h, i + 1, r, hr => by
    have := rowsOk_get cs l h.2.2 i r hr
    rw [show (i + 1) * 3 = i * 3 + 3 from by omega]
    exact this
theorem FLst.new (w : World) (l : List (Int × Bool)) (t n : Nat) (h : l.length = n) (cs : Array Value) (hc : rowsOk cs.toList l) : FLst (w.alloc (.cells cs t)) (.slice (some ⟨w.heap.size, 0, none⟩) n n) l := by
  subst h
  refine ⟨_, w.heap.size, _, rfl, fun _ => ⟨by simp, rfl⟩, fun i r hr => ?_⟩
  have key : ∀ j u, cs.toList[j]? = some u → (w.alloc (.cells cs t)).cell? ⟨w.heap.size, j, none⟩ = some u := fun j u hu => by
    rw [Lib.cell_of_heap (heap_alloc_new w _)]
    rw [Array.getElem?_toList] at hu
    exact hu
  obtain ⟨s, h1, h2, h3⟩ := rowsOk_get _ _ hc i r hr
  exact ⟨s, key _ _ h1, key _ _ h2, key _ _ h3⟩
def kindOk (k : Int) : Bool := decide (1 ≤ k) && decide (k ≤ 10)
theorem kindOk_iff (k : Int) : kindOk k = true ↔ 1 ≤ k ∧ k ≤ 10 := by unfold kindOk; simp
set_option maxRecDepth 100000 in
set_option maxHeartbeats 3200000 in
theorem fields_ok (k : Int) (h : 1 ≤ k ∧ k ≤ 10) (w : World) : Calls Tryd.prog 49 #[.int .i64 k] w fun e w' => (∃ v, e = .returned (.tuple #[v, .int .i64 0]) ∧ FLst w' v (fldK k)) ∧ Below w.heap.size w w' := by
  have hk : k = 1 ∨ k = 2 ∨ k = 3 ∨ k = 4 ∨ k = 5 ∨ k = 6 ∨ k = 7 ∨ k = 8 ∨ k = 9 ∨ k = 10 := by omega
  clear h
  rcases hk with rfl | rfl | rfl | rfl | rfl | rfl | rfl | rfl | rfl | rfl
  all_goals
    go_enter Tryd.func49, Tryd.ntmps49
    go_wp2
    go_ret2
    refine ⟨⟨_, rfl, ?_⟩, (Below.refl w.heap.size w).alloc (Nat.le_refl _) _⟩
    refine FLst.new w _ 77 _ ?_ _ ?_
    · rfl
    · simp [rowsOk, fldK]
set_option maxRecDepth 100000 in
set_option maxHeartbeats 3200000 in
theorem fields_no (k : Int) (h : ¬ (1 ≤ k ∧ k ≤ 10)) (w : World) : Calls Tryd.prog 49 #[.int .i64 k] w fun e w' => e = .returned (.tuple #[.slice none 0 0, .int .i64 92]) ∧ w' = w := by
  have h1 : (k == 1) = false := by rw [beq_eq_false_iff_ne]; omega
  have h2 : (k == 2) = false := by rw [beq_eq_false_iff_ne]; omega
  have h3 : (k == 3) = false := by rw [beq_eq_false_iff_ne]; omega
  have h4 : (k == 4) = false := by rw [beq_eq_false_iff_ne]; omega
  have h5 : (k == 5) = false := by rw [beq_eq_false_iff_ne]; omega
  have h6 : (k == 6) = false := by rw [beq_eq_false_iff_ne]; omega
  have h7 : (k == 7) = false := by rw [beq_eq_false_iff_ne]; omega
  have h8 : (k == 8) = false := by rw [beq_eq_false_iff_ne]; omega
  have h9 : (k == 9) = false := by rw [beq_eq_false_iff_ne]; omega
  have h10 : (k == 10) = false := by rw [beq_eq_false_iff_ne]; omega
  clear h
  go_enter Tryd.func49, Tryd.ntmps49
  go_wp2
  go_ret2
  exact ⟨rfl, rfl⟩
end Go.Proofs.YtmbgcpmapaedcaaDoor
