/- ExprBack, as the row hands it its arguments. -/
import Derived.Test.YtkicbmjjbnblfaaDoorFrmP
import Derived.Test.YtkicbmjjbnblfaaDoorBkW
namespace Go.Proofs.YtkicbmjjbnblfaaDoor
open Go.RowKit
theorem okV_size {l : List Tv} (h : OkV l) (i : Nat) : (tokAt l i).s.size ≤ 140737488355000 := by
  unfold tokAt
  rw [List.getD_eq_getElem?_getD]
  cases hq : l[i]? with
  | none => decide
  | some y =>
    have := (h.2 y (List.mem_of_getElem? hq)).1
    show y.s.size ≤ _
    omega
theorem back_said (xv : Value) (x : List Pv) (lv : Value) (l : List Tv) {w' : World} (hX : PLst w' xv x) (_hxc : ∀ a n cap, xv = .slice a n cap → n ≤ cap) (hox : OkP x) (hL : Lst w' lv l) (_hlc : ∀ a n cap, lv = .slice a n cap → n ≤ cap) (hol : OkV l) (w : World) (hg : Glo w) (e : w' = w := by rfl) : Calls Tryd.prog 4 #[xv, lv] w fun e w' => e = .returned (.bool true) ∧ Below w.heap.size w w' := by
  subst e
  exact back_row xv x lv l w' hX hL (by have := hox.1; omega) hol.1 (okV_size hol) hg
end Go.Proofs.YtkicbmjjbnblfaaDoor
