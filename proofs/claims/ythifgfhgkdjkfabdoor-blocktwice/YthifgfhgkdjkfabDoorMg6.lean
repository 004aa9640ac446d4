/- The contracts of num.Two, num.One and num.Result, whole. | block: what an object's cells are. | What blocks do, plainly. -/
import Derived.Test.YthifgfhgkdjkfabDoorMg5
import Derived.Test.YthifgfhgkdjkfabDoorMg2
import Derived.BigRegion
import Derived.BigQuiet
import Derived.Lib.QuietBelow
import Derived.Deep.RegionHeld3
import Derived.Lib.Builder
import Derived.Lib.BufferMore
namespace Go.Proofs.YthifgfhgkdjkfabDoor
open Go.RowKit
theorem seventeen {k : Nat} (h : k < 17) : k = 0 ∨ k = 1 ∨ k = 2 ∨ k = 3 ∨ k = 4 ∨ k = 5 ∨ k = 6 ∨ k = 7 ∨ k = 8 ∨ k = 9 ∨ k = 10 ∨ k = 11 ∨ k = 12 ∨ k = 13 ∨ k = 14 ∨ k = 15 ∨ k = 16 := by omega
theorem four {t : Int} (h : tyB t = true) : t = 1 ∨ t = 2 ∨ t = 3 ∨ t = 4 := by
  unfold tyB at h
  rw [Bool.and_eq_true] at h
  have h1 := of_decide_eq_true h.1
  have h2 := of_decide_eq_true h.2
  omega
/-- which operations a row is of -/
theorem row_has (k : Nat) (hk : k < 17) (t : Int) : has2 (k : Int) t = (bitT (rowS k) t && (Nat.ble 1 k && Nat.ble k 14)) ∧ has1 (k : Int) t = (bitT (rowS k) t && Nat.ble 15 k) := by
  cases hT : tyB t with
  | false =>
    have e : bitT (rowS k) t = false := by unfold bitT; rw [hT]; rfl
    unfold has2 has1
    rw [e, hT]
    exact ⟨rfl, rfl⟩
  | true =>
    rcases seventeen hk with rfl | rfl | rfl | rfl | rfl | rfl | rfl | rfl | rfl | rfl | rfl | rfl | rfl | rfl | rfl | rfl | rfl <;> rcases four hT with rfl | rfl | rfl | rfl <;> decide
theorem row_none (t : Int) : bitT (rowS 0) t = false := by
  cases hT : tyB t with
  | false => unfold bitT; rw [hT]; rfl
  | true => rcases four hT with rfl | rfl | rfl | rfl <;> decide
theorem out_has {op : Int} (h : op < 0 ∨ 17 ≤ op) (t : Int) : has2 op t = false ∧ has1 op t = false := by
  constructor
  · cases e : has2 op t with
    | false => rfl
    | true => have := has2_op e; omega
  · cases e : has1 op t with
    | false => rfl
    | true => have := has1_op e; omega
theorem enter80 (args : Array Value) (W : World) : (callFunc 45 args).run Tryd.prog W = .ok (.enter 45 args) W := by simp [go_sem]
theorem enter81 (args : Array Value) (W : World) : (callFunc 46 args).run Tryd.prog W = .ok (.enter 46 args) W := by simp [go_sem]
theorem enter82 (args : Array Value) (W : World) : (callFunc 47 args).run Tryd.prog W = .ok (.enter 47 args) W := by simp [go_sem]
theorem enter83 (args : Array Value) (W : World) : (callFunc 48 args).run Tryd.prog W = .ok (.enter 48 args) W := by simp [go_sem]
theorem enter84 (args : Array Value) (W : World) : (callFunc 49 args).run Tryd.prog W = .ok (.enter 49 args) W := by simp [go_sem]
theorem enter85 (args : Array Value) (W : World) : (callFunc 50 args).run Tryd.prog W = .ok (.enter 50 args) W := by simp [go_sem]
theorem enter86 (args : Array Value) (W : World) : (callFunc 51 args).run Tryd.prog W = .ok (.enter 51 args) W := by simp [go_sem]
theorem enter87 (args : Array Value) (W : World) : (callFunc 52 args).run Tryd.prog W = .ok (.enter 52 args) W := by simp [go_sem]
theorem enter88 (args : Array Value) (W : World) : (callFunc 53 args).run Tryd.prog W = .ok (.enter 53 args) W := by simp [go_sem]
theorem enter90 (args : Array Value) (W : World) : (callFunc 55 args).run Tryd.prog W = .ok (.enter 55 args) W := by simp [go_sem]
theorem enter91 (args : Array Value) (W : World) : (callFunc 56 args).run Tryd.prog W = .ok (.enter 56 args) W := by simp [go_sem]
theorem enter92 (args : Array Value) (W : World) : (callFunc 57 args).run Tryd.prog W = .ok (.enter 57 args) W := by simp [go_sem]
theorem enter93 (args : Array Value) (W : World) : (callFunc 58 args).run Tryd.prog W = .ok (.enter 58 args) W := by simp [go_sem]
theorem enter94 (args : Array Value) (W : World) : (callFunc 59 args).run Tryd.prog W = .ok (.enter 59 args) W := by simp [go_sem]
theorem enter95 (args : Array Value) (W : World) : (callFunc 60 args).run Tryd.prog W = .ok (.enter 60 args) W := by simp [go_sem]
theorem enter96 (args : Array Value) (W : World) : (callFunc 61 args).run Tryd.prog W = .ok (.enter 61 args) W := by simp [go_sem]
theorem fn_two (k : Nat) (h1 : 1 ≤ k) (h14 : k ≤ 14) (a b : Int) (ra : R a) (rb : R b) (h0 : rowDiv k = true → b ≠ 0) :
    (∀ args W, (callFunc (fnNo k) args).run Tryd.prog W = .ok (.enter (fnNo k) args) W) ∧ ∀ W, Calls Tryd.prog (fnNo k) #[.int .i64 a, .int .i64 b] W fun e w' => e = .returned (.int .i64 (pureN (k : Int) a b)) ∧ w' = W := by
  have : k = 1 ∨ k = 2 ∨ k = 3 ∨ k = 4 ∨ k = 5 ∨ k = 6 ∨ k = 7 ∨ k = 8 ∨ k = 9 ∨ k = 10 ∨ k = 11 ∨ k = 12 ∨ k = 13 ∨ k = 14 := by omega
  rcases this with rfl | rfl | rfl | rfl | rfl | rfl | rfl | rfl | rfl | rfl | rfl | rfl | rfl | rfl
  · exact ⟨enter80, fun W => add_any a b ra rb W⟩
  · exact ⟨enter81, fun W => sub_any a b ra rb W⟩
  · exact ⟨enter82, fun W => mul_any a b ra rb W⟩
  · exact ⟨enter83, fun W => div_any a b ra (h0 rfl) W⟩
  · exact ⟨enter84, fun W => mod_any a b (h0 rfl) W⟩
  · exact ⟨enter85, fun W => and_any a b  W⟩
  · exact ⟨enter86, fun W => or_any a b  W⟩
  · exact ⟨enter87, fun W => xor_any a b  W⟩
  · exact ⟨enter88, fun W => eq_any a b  W⟩
  · exact ⟨enter90, fun W => ne_any a b  W⟩
  · exact ⟨enter91, fun W => lt_any a b  W⟩
  · exact ⟨enter92, fun W => le_any a b  W⟩
  · exact ⟨enter93, fun W => gt_any a b  W⟩
  · exact ⟨enter94, fun W => ge_any a b  W⟩
theorem two_wr (k : Nat) (h1 : 1 ≤ k) (h14 : k ≤ 14) (t a b : Int) : (wrN (if rowCmp k then 1 else t) (pureN (k : Int) a b), (0 : Int)) = if 9 ≤ (k : Int) then (pureN (k : Int) a b, 0) else (wrN t (pureN (k : Int) a b), 0) := by
  by_cases h9 : 9 ≤ k
  · have e : rowCmp k = true := by unfold rowCmp; rw [Nat.ble_eq_true_of_le h9, Nat.ble_eq_true_of_le h14]; rfl
    obtain ⟨c, hc⟩ := pure_flag (op := (k : Int)) (a := a) (b := b) (by omega)
    rw [e, if_pos rfl, if_pos (show 9 ≤ (k : Int) by omega), hc, wr_fit (flag_fit c)]
  · have e : rowCmp k = false := by
      unfold rowCmp
      cases hx : Nat.ble 9 k with
      | false => rfl
      | true => exact absurd (Nat.le_of_ble_eq_true hx) h9
    rw [e, if_neg (show ¬ 9 ≤ (k : Int) by omega)]; rfl
theorem rowDiv_iff (k : Nat) : rowDiv k = true ↔ ((k : Int) = 4 ∨ (k : Int) = 5) := by
  unfold rowDiv
  rw [Bool.or_eq_true, Nat.beq_eq, Nat.beq_eq]
  omega
theorem two_any (op t a b : Int) (w : World) (hg : Glo w) : Calls Tryd.prog 41 #[.int .i64 op, .int .i64 t, .int .i64 a, .int .i64 b] w fun e w' => e = .returned (.tuple #[.int .i64 (twoN op t a b).1, .int .i64 (twoN op t a b).2]) ∧ Below w.heap.size w w' := by
  have E : twoN op t a b = if has2 op t = false then (0, 40) else if fitB t a = false ∨ fitB t b = false then (0, 1) else if (op = 4 ∨ op = 5) ∧ b = 0 then (0, 41) else if 9 ≤ op then (pureN op a b, 0) else (wrN t (pureN op a b), 0) := rfl
  by_cases ho : op < 0 ∨ 17 ≤ op
  · rw [E, if_pos (out_has ho t).1]
    exact two_no op t a b w (find_out op t w ho)
  · obtain ⟨k, rfl⟩ : ∃ k : Nat, op = (k : Int) := ⟨op.toNat, by omega⟩
    have hk : k < 17 := by omega
    obtain ⟨e2, _⟩ := row_has k hk t
    have cf := find_in t w k hk
    cases hbit : bitT (rowS k) t with
    | false =>
      rw [hbit] at e2 cf
      rw [Bool.false_and] at e2
      rw [E, if_pos e2]
      exact two_no _ t a b w cf
    | true =>
      rw [hbit] at cf e2
      rw [if_pos rfl] at cf
      have hk1 : 1 ≤ k := by
        rcases Nat.eq_zero_or_pos k with rfl | h
        · rw [row_none] at hbit; exact absurd hbit (by decide)
        · exact h
      by_cases h14 : k ≤ 14
      · have e2' : has2 (k : Int) t = true := by rw [e2, Nat.ble_eq_true_of_le hk1, Nat.ble_eq_true_of_le h14]; rfl
        have er : rowV k = #[.int .u8 (rowS k), .bool (rowCmp k), .bool (rowDiv k), .func (.func (fnNo k)) #[] #[], .nilFunc] := by
          have u : rowTwo k = .func (.func (fnNo k)) #[] #[] := by unfold rowTwo; rw [Nat.ble_eq_true_of_le hk1, Nat.ble_eq_true_of_le h14]; rfl
          have v : rowOne k = .nilFunc := by
            unfold rowOne
            cases hx : Nat.ble 15 k with
            | false => rfl
            | true => have := Nat.le_of_ble_eq_true hx; omega
          unfold rowV; rw [u, v]
        rw [er] at cf
        rw [E, if_neg (by rw [e2']; decide)]
        by_cases hr : fitB t a = false ∨ fitB t b = false
        · rw [if_pos hr]
          exact two_range _ t a b _ _ _ _ w hg hr cf
        · rw [if_neg hr]
          have ha : fitB t a = true := by cases h : fitB t a with
            | false => exact absurd (.inl h) hr
            | true => rfl
          have hb : fitB t b = true := by cases h : fitB t b with
            | false => exact absurd (.inr h) hr
            | true => rfl
          by_cases hz : ((k : Int) = 4 ∨ (k : Int) = 5) ∧ b = 0
          · rw [if_pos hz]
            obtain ⟨h45, rfl⟩ := hz
            rw [(rowDiv_iff k).2 h45] at cf
            exact two_zero_div _ t a _ _ _ w hg ha hb cf
          · rw [if_neg hz, ← two_wr k hk1 h14 t a b]
            have h0 : rowDiv k = true → ¬ b = 0 := fun h hb0 => hz ⟨(rowDiv_iff k).1 h, hb0⟩
            obtain ⟨f1, f2⟩ := fn_two k hk1 h14 a b (R_of_fit ha) (R_of_fit hb) h0
            exact two_core _ t a b _ _ _ _ _ f1 w hg ha hb h0 f2 cf
      · have e2' : has2 (k : Int) t = false := by
          rw [e2]
          cases hx : Nat.ble k 14 with
          | false => simp
          | true => exact absurd (Nat.le_of_ble_eq_true hx) h14
        have er : rowV k = #[.int .u8 (rowS k), .bool (rowCmp k), .bool (rowDiv k), .nilFunc, .func (.func (fnNo k)) #[] #[]] := by
          have u : rowTwo k = .nilFunc := by
            unfold rowTwo
            cases hx : Nat.ble k 14 with
            | false => simp
            | true => exact absurd (Nat.le_of_ble_eq_true hx) h14
          have v : rowOne k = .func (.func (fnNo k)) #[] #[] := by unfold rowOne; rw [Nat.ble_eq_true_of_le (show 15 ≤ k by omega)]; rfl
          unfold rowV; rw [u, v]
        rw [er] at cf
        rw [E, if_pos e2']
        exact two_nil _ t a b _ _ _ _ w cf
end Go.Proofs.YthifgfhgkdjkfabDoor
namespace Go.Proofs.YthifgfhgkdjkfabDoor
open Go.RowKit
set_option maxHeartbeats 400000 in
theorem bit_any (b : Bool) (w : World) : Calls Tryd.prog 39 #[.bool b] w fun e w' => e = .returned (.int .i64 (flagN b)) ∧ w' = w := by
  cases b
  all_goals
    go_enter Tryd.func39, Tryd.ntmps39
    go_wp2
    go_ret
    exact ⟨rfl, rfl⟩
/-- an object's cells -/
def Ob (w : World) (g : Nat) (T : TypeId) (cs : Array Value) : Prop := w.heap[g]? = some (.cells cs T (0, 0))
theorem Ob.cell {w : World} {g : Nat} {T : TypeId} {cs : Array Value} (h : Ob w g T cs) (k : Nat) {v : Value} (hv : cs[k]? = some v) : w.cell? ⟨g, k, none⟩ = some v := by rw [Lib.cell_of_heap h]; exact hv
theorem Ob.fr {w : World} {g : Nat} {T : TypeId} {cs : Array Value} (h : Ob w g T cs) (k : Nat) : w.frozen? ⟨g, k, none⟩ = false := Lib.frozen_of_heap h k
theorem Ob.set {w : World} {g : Nat} {T : TypeId} {cs : Array Value} (h : Ob w g T cs) (k : Nat) (v : Value) {ds : Array Value} (hd : cs.setIfInBounds k v = ds) : Ob (w.setCell ⟨g, k, none⟩ v) g T ds := by
  subst hd
  exact Lib.heap_setCell_same h v
theorem Ob.on {w w' : World} {g B : Nat} {T : TypeId} {cs : Array Value} (h : Ob w g T cs) (hb : Below B w w') (hB : g < B) : Ob w' g T cs := (hb.block g hB).trans h
theorem Ob.lt {w : World} {g : Nat} {T : TypeId} {cs : Array Value} (h : Ob w g T cs) : g < w.heap.size := (Array.getElem?_eq_some_iff.1 h).1
theorem Ob.new (w : World) (T : TypeId) (cs : Array Value) : Ob (w.alloc (.cells cs T)) w.heap.size T cs := heap_alloc_new _ _
set_option maxRecDepth 100000 in
set_option maxHeartbeats 1600000 in
theorem cells72 (g : Nat) (x0 x2 x5 : Bool) (x1 x3 x4 : Int) (T : TypeId) (w : World) (h : Ob w g T #[.bool x0, .int .i64 x1, .bool x2, .int .i64 x3, .int .i64 x4, .bool x5]) :
    Calls Tryd.prog 37 #[.pointer (some ⟨g, 0, none⟩)] w fun e w' => e = .returned (.slice (some ⟨w.heap.size, 0, none⟩) 6 6) ∧ w' = (w.alloc (.cells #[.int .i64 (flagN x0), .int .i64 x1, .int .i64 (flagN x2), .int .i64 x3, .int .i64 x4, .int .i64 (flagN x5)] 2)).drew := by
  have m1 := fun b W => bit_any b W
  have c0 := h.cell 0 (v := _) rfl
  have c1 := h.cell 1 (v := _) rfl
  have c2 := h.cell 2 (v := _) rfl
  have c3 := h.cell 3 (v := _) rfl
  have c4 := h.cell 4 (v := _) rfl
  have c5 := h.cell 5 (v := _) rfl
  clear h
  go_enter Tryd.func37, Tryd.ntmps37
  go_wp2_with fail
  go_region_held3 (fun W => W.cell? ⟨g, 0, none⟩ = some (.bool x0) ∧ W.cell? ⟨g, 1, none⟩ = some (.int .i64 x1) ∧ W.cell? ⟨g, 2, none⟩ = some (.bool x2) ∧ W.cell? ⟨g, 3, none⟩ = some (.int .i64 x3) ∧ W.cell? ⟨g, 4, none⟩ = some (.int .i64 x4) ∧ W.cell? ⟨g, 5, none⟩ = some (.bool x5)) (go_keep) (first | (go_at_call 39; refine (m1 _ _).mono ?_; rintro e w1 ⟨rfl, rfl⟩))
  go_wp2
  go_ret
  exact ⟨rfl, rfl⟩
set_option maxRecDepth 100000 in
set_option maxHeartbeats 1600000 in
theorem cells100 (g : Nat) (x0 x1 x3 x5 : Bool) (x2 x4 : Int) (T : TypeId) (w : World) (h : Ob w g T #[.bool x0, .bool x1, .int .i64 x2, .bool x3, .int .i64 x4, .bool x5]) :
    Calls Tryd.prog 65 #[.pointer (some ⟨g, 0, none⟩)] w fun e w' => e = .returned (.slice (some ⟨w.heap.size, 0, none⟩) 6 6) ∧ w' = (w.alloc (.cells #[.int .i64 (flagN x0), .int .i64 (flagN x1), .int .i64 x2, .int .i64 (flagN x3), .int .i64 x4, .int .i64 (flagN x5)] 2)).drew := by
  have m1 := fun b W => bit_any b W
  have c0 := h.cell 0 (v := _) rfl
  have c1 := h.cell 1 (v := _) rfl
  have c2 := h.cell 2 (v := _) rfl
  have c3 := h.cell 3 (v := _) rfl
  have c4 := h.cell 4 (v := _) rfl
  have c5 := h.cell 5 (v := _) rfl
  clear h
  go_enter Tryd.func65, Tryd.ntmps65
  go_wp2_with fail
  go_region_held3 (fun W => W.cell? ⟨g, 0, none⟩ = some (.bool x0) ∧ W.cell? ⟨g, 1, none⟩ = some (.bool x1) ∧ W.cell? ⟨g, 2, none⟩ = some (.int .i64 x2) ∧ W.cell? ⟨g, 3, none⟩ = some (.bool x3) ∧ W.cell? ⟨g, 4, none⟩ = some (.int .i64 x4) ∧ W.cell? ⟨g, 5, none⟩ = some (.bool x5)) (go_keep) (first | (go_at_call 39; refine (m1 _ _).mono ?_; rintro e w1 ⟨rfl, rfl⟩))
  go_wp2
  go_ret
  exact ⟨rfl, rfl⟩
set_option maxRecDepth 100000 in
set_option maxHeartbeats 1600000 in
theorem cells104 (g : Nat) (x0 x1 x2 : Bool) (T : TypeId) (w : World) (h : Ob w g T #[.bool x0, .bool x1, .bool x2]) :
    Calls Tryd.prog 69 #[.pointer (some ⟨g, 0, none⟩)] w fun e w' => e = .returned (.slice (some ⟨w.heap.size, 0, none⟩) 3 3) ∧ w' = (w.alloc (.cells #[.int .i64 (flagN x0), .int .i64 (flagN x1), .int .i64 (flagN x2)] 2)).drew := by
  have m1 := fun b W => bit_any b W
  have c0 := h.cell 0 (v := _) rfl
  have c1 := h.cell 1 (v := _) rfl
  have c2 := h.cell 2 (v := _) rfl
  clear h
  go_enter Tryd.func69, Tryd.ntmps69
  go_wp2_with fail
  go_region_held3 (fun W => W.cell? ⟨g, 0, none⟩ = some (.bool x0) ∧ W.cell? ⟨g, 1, none⟩ = some (.bool x1) ∧ W.cell? ⟨g, 2, none⟩ = some (.bool x2)) (go_keep) (first | (go_at_call 39; refine (m1 _ _).mono ?_; rintro e w1 ⟨rfl, rfl⟩))
  go_wp2
  go_ret
  exact ⟨rfl, rfl⟩
set_option maxRecDepth 100000 in
set_option maxHeartbeats 1600000 in
theorem cells107 (g : Nat) (x0 x1 x2 : Bool) (T : TypeId) (w : World) (h : Ob w g T #[.bool x0, .bool x1, .bool x2]) :
    Calls Tryd.prog 72 #[.pointer (some ⟨g, 0, none⟩)] w fun e w' => e = .returned (.slice (some ⟨w.heap.size, 0, none⟩) 3 3) ∧ w' = (w.alloc (.cells #[.int .i64 (flagN x0), .int .i64 (flagN x1), .int .i64 (flagN x2)] 2)).drew := by
  have m1 := fun b W => bit_any b W
  have c0 := h.cell 0 (v := _) rfl
  have c1 := h.cell 1 (v := _) rfl
  have c2 := h.cell 2 (v := _) rfl
  clear h
  go_enter Tryd.func72, Tryd.ntmps72
  go_wp2_with fail
  go_region_held3 (fun W => W.cell? ⟨g, 0, none⟩ = some (.bool x0) ∧ W.cell? ⟨g, 1, none⟩ = some (.bool x1) ∧ W.cell? ⟨g, 2, none⟩ = some (.bool x2)) (go_keep) (first | (go_at_call 39; refine (m1 _ _).mono ?_; rintro e w1 ⟨rfl, rfl⟩))
  go_wp2
  go_ret
  exact ⟨rfl, rfl⟩
set_option maxRecDepth 100000 in
set_option maxHeartbeats 1600000 in
theorem cells110 (g : Nat) (x0 x1 x2 x4 : Bool) (x3 x5 : Int) (T : TypeId) (w : World) (h : Ob w g T #[.bool x0, .bool x1, .bool x2, .int .i64 x3, .bool x4, .int .i64 x5]) :
    Calls Tryd.prog 75 #[.pointer (some ⟨g, 0, none⟩)] w fun e w' => e = .returned (.slice (some ⟨w.heap.size, 0, none⟩) 6 6) ∧ w' = (w.alloc (.cells #[.int .i64 (flagN x0), .int .i64 (flagN x1), .int .i64 (flagN x2), .int .i64 x3, .int .i64 (flagN x4), .int .i64 x5] 2)).drew := by
  have m1 := fun b W => bit_any b W
  have c0 := h.cell 0 (v := _) rfl
  have c1 := h.cell 1 (v := _) rfl
  have c2 := h.cell 2 (v := _) rfl
  have c3 := h.cell 3 (v := _) rfl
  have c4 := h.cell 4 (v := _) rfl
  have c5 := h.cell 5 (v := _) rfl
  clear h
  go_enter Tryd.func75, Tryd.ntmps75
  go_wp2_with fail
  go_region_held3 (fun W => W.cell? ⟨g, 0, none⟩ = some (.bool x0) ∧ W.cell? ⟨g, 1, none⟩ = some (.bool x1) ∧ W.cell? ⟨g, 2, none⟩ = some (.bool x2) ∧ W.cell? ⟨g, 3, none⟩ = some (.int .i64 x3) ∧ W.cell? ⟨g, 4, none⟩ = some (.bool x4) ∧ W.cell? ⟨g, 5, none⟩ = some (.int .i64 x5)) (go_keep) (first | (go_at_call 39; refine (m1 _ _).mono ?_; rintro e w1 ⟨rfl, rfl⟩))
  go_wp2
  go_ret
  exact ⟨rfl, rfl⟩
end Go.Proofs.YthifgfhgkdjkfabDoor
namespace Go.Proofs.YthifgfhgkdjkfabDoor
open Go.RowKit
/-- the time that has gone -/
def goneN (now s : Int) : Int := wrN 4 (now - s)
theorem gone_two {now s : Int} (h1 : fitB 4 now = true) (h2 : fitB 4 s = true) : twoN 2 4 now s = (goneN now s, 0) := by
  rw [two_plain (by decide) h1 h2 (by omega)]
  rfl
theorem add_two {a b : Int} (h1 : fitB 3 a = true) (h2 : fitB 3 b = true) : twoN 1 3 a b = (wrN 3 (a + b), 0) := two_add (Or.inr rfl) h1 h2
structure Tm where
  i : Bool
  p : Int
  q : Bool
  e : Int
  s : Int
  r : Bool
structure Cn where
  c : Bool
  b : Bool
  p : Int
  q : Bool
  v : Int
  m : Bool
structure Tr where
  a : Bool
  b : Bool
  c : Bool
structure Cd where
  a : Bool
  b : Bool
  r : Bool
  v : Int
  e : Bool
  l : Int
def Tm.ob (t : Tm) : Array Value := #[.bool t.i, .int .i64 t.p, .bool t.q, .int .i64 t.e, .int .i64 t.s, .bool t.r]
def Cn.ob (t : Cn) : Array Value := #[.bool t.c, .bool t.b, .int .i64 t.p, .bool t.q, .int .i64 t.v, .bool t.m]
def Tr.ob (t : Tr) : Array Value := #[.bool t.a, .bool t.b, .bool t.c]
def Cd.ob (t : Cd) : Array Value := #[.bool t.a, .bool t.b, .bool t.r, .int .i64 t.v, .bool t.e, .int .i64 t.l]
def Tm.ls (t : Tm) : List Int := [flagN t.i, t.p, flagN t.q, t.e, t.s, flagN t.r]
def Cn.ls (t : Cn) : List Int := [flagN t.c, flagN t.b, t.p, flagN t.q, t.v, flagN t.m]
def Tr.ls (t : Tr) : List Int := [flagN t.a, flagN t.b, flagN t.c]
def Cd.ls (t : Cd) : List Int := [flagN t.a, flagN t.b, flagN t.r, t.v, flagN t.e, t.l]
def tonT (now : Int) (t : Tm) : Tm :=
  if t.i then ⟨t.i, t.p, decide (t.p ≤ goneN now (if t.r then t.s else now)), min (goneN now (if t.r then t.s else now)) t.p, if t.r then t.s else now, true⟩
  else ⟨t.i, t.p, false, 0, t.s, false⟩
def tofT (now : Int) (t : Tm) : Tm :=
  if t.i then ⟨t.i, t.p, true, 0, t.s, false⟩
  else if t.q then ⟨t.i, t.p, !decide (t.p ≤ goneN now (if t.r then t.s else now)), min (goneN now (if t.r then t.s else now)) t.p, if t.r then t.s else now, !decide (t.p ≤ goneN now (if t.r then t.s else now))⟩
  else t
/-- a pulse's beginning, its time, its end -/
def tpA (now : Int) (t : Tm) : Tm := if !t.r && (t.i && t.e == 0) then ⟨t.i, t.p, t.q, t.e, now, true⟩ else t
def tpB (now : Int) (t : Tm) : Tm := if t.r then ⟨t.i, t.p, !decide (t.p ≤ goneN now t.s), min (goneN now t.s) t.p, t.s, !decide (t.p ≤ goneN now t.s)⟩ else t
def tpC (t : Tm) : Tm := if !t.r && !t.i then ⟨t.i, t.p, t.q, 0, t.s, t.r⟩ else t
def tpT (now : Int) (t : Tm) : Tm := tpC (tpB now (tpA now t))
def ctuV (t : Cn) : Int := if t.b then 0 else if t.c && !t.m && decide (t.v < 32767) then t.v + 1 else t.v
def ctuT (t : Cn) : Cn := ⟨t.c, t.b, t.p, decide (t.p ≤ ctuV t), ctuV t, t.c⟩
def ctdV (t : Cn) : Int := if t.b then t.p else if t.c && !t.m && decide (-32768 < t.v) then t.v - 1 else t.v
def ctdT (t : Cn) : Cn := ⟨t.c, t.b, t.p, decide (ctdV t ≤ 0), ctdV t, t.c⟩
def rT (t : Tr) : Tr := ⟨t.a, t.a && !t.c, t.a⟩
def fT (t : Tr) : Tr := ⟨t.a, !t.a && t.c, t.a⟩
def srT (t : Tr) : Tr := ⟨t.a, t.b, t.a || (!t.b && t.c)⟩
def rsT (t : Tr) : Tr := ⟨t.a, t.b, !t.b && (t.a || t.c)⟩
def folT (n : Nat) (t : Cd) : Cd := if jmp (t.l - 1).toNat n then ⟨t.a, t.b, t.r, t.v, true, t.l⟩ else ⟨t.a, t.b, t.r, wrN 3 (t.v + stp (t.l - 1).toNat n), t.e, t.l⟩
def lst5 (n : Nat) (t : Cd) : Cd := ⟨t.a, t.b, t.r, t.v, t.e, (n : Int) + 1⟩
def cdT (t : Cd) : Cd := lst5 (pn t.a t.b) (if t.r then ⟨t.a, t.b, t.r, 0, false, t.l⟩ else if 1 ≤ t.l ∧ t.l ≤ 4 then folT (pn t.a t.b) t else t)
end Go.Proofs.YthifgfhgkdjkfabDoor
