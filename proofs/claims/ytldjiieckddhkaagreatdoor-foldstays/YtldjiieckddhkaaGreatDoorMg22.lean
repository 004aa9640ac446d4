/- The contracts of num.Two, num.One and num.Result, whole. | The contracts of the row's result, and of the program's Wrap, Convert. | The contracts of Convert, the program's and the document's. -/
import Derived.Test.YtldjiieckddhkaaGreatDoorMg21
import Derived.Test.YtldjiieckddhkaaGreatDoorMg18
namespace Go.Proofs.YtldjiieckddhkaaGreatDoor.Four
open Go.RowKit
theorem seventeen {k : Nat} (h : k < 17) : k = 0 ∨ k = 1 ∨ k = 2 ∨ k = 3 ∨ k = 4 ∨ k = 5 ∨ k = 6 ∨ k = 7 ∨ k = 8 ∨ k = 9 ∨ k = 10 ∨ k = 11 ∨ k = 12 ∨ k = 13 ∨ k = 14 ∨ k = 15 ∨ k = 16 := by omega
theorem four {t : Int} (h : tyB t = true) : t = 1 ∨ t = 2 ∨ t = 3 ∨ t = 4 := by
  unfold tyB at h
  rw [Bool.and_eq_true] at h
  have h1 := of_decide_eq_true h.1
  have h2 := of_decide_eq_true h.2
  omega
/-- which operations a row is of -/
theorem row_has (k : Nat) (hk : k < 17) (t : Int) : has2 (k : Int) t = (bitT (rowS k) t && (Nat.ble 1 k && Nat.ble k 14)) ∧ has1 (k : Int) t = (bitT (rowS k) t && Nat.ble 15 k) := by
  cases hT : tyB t with
  | false =>
    have e : bitT (rowS k) t = false := by unfold bitT; rw [hT]; rfl
    unfold has2 has1
    rw [e, hT]
    exact ⟨rfl, rfl⟩
  | true =>
    rcases seventeen hk with rfl | rfl | rfl | rfl | rfl | rfl | rfl | rfl | rfl | rfl | rfl | rfl | rfl | rfl | rfl | rfl | rfl <;> rcases four hT with rfl | rfl | rfl | rfl <;> decide
theorem row_none (t : Int) : bitT (rowS 0) t = false := by
  cases hT : tyB t with
  | false => unfold bitT; rw [hT]; rfl
  | true => rcases four hT with rfl | rfl | rfl | rfl <;> decide
theorem out_has {op : Int} (h : op < 0 ∨ 17 ≤ op) (t : Int) : has2 op t = false ∧ has1 op t = false := by
  constructor
  · cases e : has2 op t with
    | false => rfl
    | true => have := has2_op e; omega
  · cases e : has1 op t with
    | false => rfl
    | true => have := has1_op e; omega
theorem enter36 (args : Array Value) (W : World) : (callFunc 58 args).run Tryz.prog W = .ok (.enter 58 args) W := by simp [go_sem]
theorem enter37 (args : Array Value) (W : World) : (callFunc 59 args).run Tryz.prog W = .ok (.enter 59 args) W := by simp [go_sem]
theorem enter38 (args : Array Value) (W : World) : (callFunc 60 args).run Tryz.prog W = .ok (.enter 60 args) W := by simp [go_sem]
theorem enter39 (args : Array Value) (W : World) : (callFunc 61 args).run Tryz.prog W = .ok (.enter 61 args) W := by simp [go_sem]
theorem enter40 (args : Array Value) (W : World) : (callFunc 62 args).run Tryz.prog W = .ok (.enter 62 args) W := by simp [go_sem]
theorem enter41 (args : Array Value) (W : World) : (callFunc 63 args).run Tryz.prog W = .ok (.enter 63 args) W := by simp [go_sem]
theorem enter42 (args : Array Value) (W : World) : (callFunc 64 args).run Tryz.prog W = .ok (.enter 64 args) W := by simp [go_sem]
theorem enter43 (args : Array Value) (W : World) : (callFunc 65 args).run Tryz.prog W = .ok (.enter 65 args) W := by simp [go_sem]
theorem enter44 (args : Array Value) (W : World) : (callFunc 66 args).run Tryz.prog W = .ok (.enter 66 args) W := by simp [go_sem]
theorem enter46 (args : Array Value) (W : World) : (callFunc 68 args).run Tryz.prog W = .ok (.enter 68 args) W := by simp [go_sem]
theorem enter47 (args : Array Value) (W : World) : (callFunc 69 args).run Tryz.prog W = .ok (.enter 69 args) W := by simp [go_sem]
theorem enter48 (args : Array Value) (W : World) : (callFunc 70 args).run Tryz.prog W = .ok (.enter 70 args) W := by simp [go_sem]
theorem enter49 (args : Array Value) (W : World) : (callFunc 71 args).run Tryz.prog W = .ok (.enter 71 args) W := by simp [go_sem]
theorem enter50 (args : Array Value) (W : World) : (callFunc 72 args).run Tryz.prog W = .ok (.enter 72 args) W := by simp [go_sem]
theorem enter51 (args : Array Value) (W : World) : (callFunc 73 args).run Tryz.prog W = .ok (.enter 73 args) W := by simp [go_sem]
theorem enter52 (args : Array Value) (W : World) : (callFunc 74 args).run Tryz.prog W = .ok (.enter 74 args) W := by simp [go_sem]
theorem fn_two (k : Nat) (h1 : 1 ≤ k) (h14 : k ≤ 14) (a b : Int) (ra : R a) (rb : R b) (h0 : rowDiv k = true → b ≠ 0) :
    (∀ args W, (callFunc (fnNo k) args).run Tryz.prog W = .ok (.enter (fnNo k) args) W) ∧ ∀ W, Calls Tryz.prog (fnNo k) #[.int .i64 a, .int .i64 b] W fun e w' => e = .returned (.int .i64 (pureN (k : Int) a b)) ∧ w' = W := by
  have : k = 1 ∨ k = 2 ∨ k = 3 ∨ k = 4 ∨ k = 5 ∨ k = 6 ∨ k = 7 ∨ k = 8 ∨ k = 9 ∨ k = 10 ∨ k = 11 ∨ k = 12 ∨ k = 13 ∨ k = 14 := by omega
  rcases this with rfl | rfl | rfl | rfl | rfl | rfl | rfl | rfl | rfl | rfl | rfl | rfl | rfl | rfl
  · exact ⟨enter36, fun W => add_any a b ra rb W⟩
  · exact ⟨enter37, fun W => sub_any a b ra rb W⟩
  · exact ⟨enter38, fun W => mul_any a b ra rb W⟩
  · exact ⟨enter39, fun W => div_any a b ra (h0 rfl) W⟩
  · exact ⟨enter40, fun W => mod_any a b (h0 rfl) W⟩
  · exact ⟨enter41, fun W => and_any a b  W⟩
  · exact ⟨enter42, fun W => or_any a b  W⟩
  · exact ⟨enter43, fun W => xor_any a b  W⟩
  · exact ⟨enter44, fun W => eq_any a b  W⟩
  · exact ⟨enter46, fun W => ne_any a b  W⟩
  · exact ⟨enter47, fun W => lt_any a b  W⟩
  · exact ⟨enter48, fun W => le_any a b  W⟩
  · exact ⟨enter49, fun W => gt_any a b  W⟩
  · exact ⟨enter50, fun W => ge_any a b  W⟩
theorem two_wr (k : Nat) (h1 : 1 ≤ k) (h14 : k ≤ 14) (t a b : Int) : (wrN (if rowCmp k then 1 else t) (pureN (k : Int) a b), (0 : Int)) = if 9 ≤ (k : Int) then (pureN (k : Int) a b, 0) else (wrN t (pureN (k : Int) a b), 0) := by
  by_cases h9 : 9 ≤ k
  · have e : rowCmp k = true := by unfold rowCmp; rw [Nat.ble_eq_true_of_le h9, Nat.ble_eq_true_of_le h14]; rfl
    obtain ⟨c, hc⟩ := pure_flag (op := (k : Int)) (a := a) (b := b) (by omega)
    rw [e, if_pos rfl, if_pos (show 9 ≤ (k : Int) by omega), hc, wr_fit (flag_fit c)]
  · have e : rowCmp k = false := by
      unfold rowCmp
      cases hx : Nat.ble 9 k with
      | false => rfl
      | true => exact absurd (Nat.le_of_ble_eq_true hx) h9
    rw [e, if_neg (show ¬ 9 ≤ (k : Int) by omega)]; rfl
theorem rowDiv_iff (k : Nat) : rowDiv k = true ↔ ((k : Int) = 4 ∨ (k : Int) = 5) := by
  unfold rowDiv
  rw [Bool.or_eq_true, Nat.beq_eq, Nat.beq_eq]
  omega
theorem two_any (op t a b : Int) (w : World) (hg : Glo w) : Calls Tryz.prog 21 #[.int .i64 op, .int .i64 t, .int .i64 a, .int .i64 b] w fun e w' => e = .returned (.tuple #[.int .i64 (twoN op t a b).1, .int .i64 (twoN op t a b).2]) ∧ Below w.heap.size w w' := by
  have E : twoN op t a b = if has2 op t = false then (0, 40) else if fitB t a = false ∨ fitB t b = false then (0, 1) else if (op = 4 ∨ op = 5) ∧ b = 0 then (0, 41) else if 9 ≤ op then (pureN op a b, 0) else (wrN t (pureN op a b), 0) := rfl
  by_cases ho : op < 0 ∨ 17 ≤ op
  · rw [E, if_pos (out_has ho t).1]
    exact two_no op t a b w (find_out op t w ho)
  · obtain ⟨k, rfl⟩ : ∃ k : Nat, op = (k : Int) := ⟨op.toNat, by omega⟩
    have hk : k < 17 := by omega
    obtain ⟨e2, _⟩ := row_has k hk t
    have cf := find_in t w k hk
    cases hbit : bitT (rowS k) t with
    | false =>
      rw [hbit] at e2 cf
      rw [Bool.false_and] at e2
      rw [E, if_pos e2]
      exact two_no _ t a b w cf
    | true =>
      rw [hbit] at cf e2
      rw [if_pos rfl] at cf
      have hk1 : 1 ≤ k := by
        rcases Nat.eq_zero_or_pos k with rfl | h
        · rw [row_none] at hbit; exact absurd hbit (by decide)
        · exact h
      by_cases h14 : k ≤ 14
      · have e2' : has2 (k : Int) t = true := by rw [e2, Nat.ble_eq_true_of_le hk1, Nat.ble_eq_true_of_le h14]; rfl
        have er : rowV k = #[.int .u8 (rowS k), .bool (rowCmp k), .bool (rowDiv k), .func (.func (fnNo k)) #[] #[], .nilFunc] := by
          have u : rowTwo k = .func (.func (fnNo k)) #[] #[] := by unfold rowTwo; rw [Nat.ble_eq_true_of_le hk1, Nat.ble_eq_true_of_le h14]; rfl
          have v : rowOne k = .nilFunc := by
            unfold rowOne
            cases hx : Nat.ble 15 k with
            | false => rfl
            | true => have := Nat.le_of_ble_eq_true hx; omega
          unfold rowV; rw [u, v]
        rw [er] at cf
        rw [E, if_neg (by rw [e2']; decide)]
        by_cases hr : fitB t a = false ∨ fitB t b = false
        · rw [if_pos hr]
          exact two_range _ t a b _ _ _ _ w hg hr cf
        · rw [if_neg hr]
          have ha : fitB t a = true := by cases h : fitB t a with
            | false => exact absurd (.inl h) hr
            | true => rfl
          have hb : fitB t b = true := by cases h : fitB t b with
            | false => exact absurd (.inr h) hr
            | true => rfl
          by_cases hz : ((k : Int) = 4 ∨ (k : Int) = 5) ∧ b = 0
          · rw [if_pos hz]
            obtain ⟨h45, rfl⟩ := hz
            rw [(rowDiv_iff k).2 h45] at cf
            exact two_zero_div _ t a _ _ _ w hg ha hb cf
          · rw [if_neg hz, ← two_wr k hk1 h14 t a b]
            have h0 : rowDiv k = true → ¬ b = 0 := fun h hb0 => hz ⟨(rowDiv_iff k).1 h, hb0⟩
            obtain ⟨f1, f2⟩ := fn_two k hk1 h14 a b (R_of_fit ha) (R_of_fit hb) h0
            exact two_core _ t a b _ _ _ _ _ f1 w hg ha hb h0 f2 cf
      · have e2' : has2 (k : Int) t = false := by
          rw [e2]
          cases hx : Nat.ble k 14 with
          | false => simp
          | true => exact absurd (Nat.le_of_ble_eq_true hx) h14
        have er : rowV k = #[.int .u8 (rowS k), .bool (rowCmp k), .bool (rowDiv k), .nilFunc, .func (.func (fnNo k)) #[] #[]] := by
          have u : rowTwo k = .nilFunc := by
            unfold rowTwo
            cases hx : Nat.ble k 14 with
            | false => simp
            | true => exact absurd (Nat.le_of_ble_eq_true hx) h14
          have v : rowOne k = .func (.func (fnNo k)) #[] #[] := by unfold rowOne; rw [Nat.ble_eq_true_of_le (show 15 ≤ k by omega)]; rfl
          unfold rowV; rw [u, v]
        rw [er] at cf
        rw [E, if_pos e2']
        exact two_nil _ t a b _ _ _ _ w cf
theorem one_any (op t a : Int) (w : World) (hg : Glo w) : Calls Tryz.prog 129 #[.int .i64 op, .int .i64 t, .int .i64 a] w fun e w' => e = .returned (.tuple #[.int .i64 (oneN op t a).1, .int .i64 (oneN op t a).2]) ∧ Below w.heap.size w w' := by
  have E : oneN op t a = if has1 op t = false then (0, 40) else if fitB t a = false then (0, 1) else if op = 15 then (wrN t (-a), 0) else if t = 1 then (1 - a, 0) else (wrN t (-1 - a), 0) := rfl
  by_cases ho : op < 0 ∨ 17 ≤ op
  · rw [E, if_pos (out_has ho t).2]
    exact one_no op t a w (find_out op t w ho)
  · obtain ⟨k, rfl⟩ : ∃ k : Nat, op = (k : Int) := ⟨op.toNat, by omega⟩
    have hk : k < 17 := by omega
    obtain ⟨_, e2⟩ := row_has k hk t
    have cf := find_in t w k hk
    cases hbit : bitT (rowS k) t with
    | false =>
      rw [hbit] at e2 cf
      rw [Bool.false_and] at e2
      rw [E, if_pos e2]
      exact one_no _ t a w cf
    | true =>
      rw [hbit] at cf e2
      rw [if_pos rfl] at cf
      have hk1 : 1 ≤ k := by
        rcases Nat.eq_zero_or_pos k with rfl | h
        · rw [row_none] at hbit; exact absurd hbit (by decide)
        · exact h
      by_cases h14 : k ≤ 14
      · have e2' : has1 (k : Int) t = false := by
          rw [e2]
          cases hx : Nat.ble 15 k with
          | false => rfl
          | true => have := Nat.le_of_ble_eq_true hx; omega
        have er : rowV k = #[.int .u8 (rowS k), .bool (rowCmp k), .bool (rowDiv k), .func (.func (fnNo k)) #[] #[], .nilFunc] := by
          have u : rowTwo k = .func (.func (fnNo k)) #[] #[] := by unfold rowTwo; rw [Nat.ble_eq_true_of_le hk1, Nat.ble_eq_true_of_le h14]; rfl
          have v : rowOne k = .nilFunc := by
            unfold rowOne
            cases hx : Nat.ble 15 k with
            | false => rfl
            | true => have := Nat.le_of_ble_eq_true hx; omega
          unfold rowV; rw [u, v]
        rw [er] at cf
        rw [E, if_pos e2']
        exact one_nil _ t a _ _ _ _ w cf
      · have e2' : has1 (k : Int) t = true := by rw [e2, Nat.ble_eq_true_of_le (show 15 ≤ k by omega)]; rfl
        have er : rowV k = #[.int .u8 (rowS k), .bool (rowCmp k), .bool (rowDiv k), .nilFunc, .func (.func (fnNo k)) #[] #[]] := by
          have u : rowTwo k = .nilFunc := by
            unfold rowTwo
            cases hx : Nat.ble k 14 with
            | false => simp
            | true => exact absurd (Nat.le_of_ble_eq_true hx) h14
          have v : rowOne k = .func (.func (fnNo k)) #[] #[] := by unfold rowOne; rw [Nat.ble_eq_true_of_le (show 15 ≤ k by omega)]; rfl
          unfold rowV; rw [u, v]
        rw [er] at cf
        rw [E, if_neg (by rw [e2']; decide)]
        cases ha : fitB t a with
        | false =>
          rw [if_pos rfl]
          exact one_range _ t a _ _ _ _ w hg ha cf
        | true =>
          rw [if_neg (by decide)]
          have h1516 : k = 15 ∨ k = 16 := by omega
          rcases h1516 with rfl | rfl
          · rw [if_pos (show ((15 : Nat) : Int) = 15 from rfl)]
            exact one_core _ t a _ (-a) _ _ _ enter51 w hg ha (fun W => neg_any a (R_of_fit ha) W) cf
          · rw [if_neg (show ¬ ((16 : Nat) : Int) = 15 by decide)]
            by_cases h1 : t = 1
            · subst h1
              rw [if_pos rfl]
              have e : wrN 1 (-1 - a) = 1 - a := by
                rw [wr_one]
                rcases fit_one ha with rfl | rfl <;> decide
              have := one_core 16 1 a _ (-1 - a) _ _ _ enter52 w hg ha (fun W => not_any a (R_of_fit ha) W) cf
              rw [show (if rowCmp 16 = true then 1 else 1 : Int) = 1 from rfl, e] at this
              exact this
            · rw [if_neg h1]
              exact one_core _ t a _ (-1 - a) _ _ _ enter52 w hg ha (fun W => not_any a (R_of_fit ha) W) cf
theorem res_any (op t : Int) (w : World) : Calls Tryz.prog 92 #[.int .i64 op, .int .i64 t] w fun e w' => e = .returned (.tuple #[.int .i64 (resN op t).1, .int .i64 (resN op t).2]) ∧ Below w.heap.size w w' := by
  have E : resN op t = if has1 op t = false ∧ has2 op t = false then (0, 40) else if 9 ≤ op ∧ op ≤ 14 then (1, 0) else (t, 0) := rfl
  by_cases ho : op < 0 ∨ 17 ≤ op
  · rw [E, if_pos (out_has ho t).symm]
    exact res_no op t w (find_out op t w ho)
  · obtain ⟨k, rfl⟩ : ∃ k : Nat, op = (k : Int) := ⟨op.toNat, by omega⟩
    have hk : k < 17 := by omega
    obtain ⟨e2, e1⟩ := row_has k hk t
    have cf := find_in t w k hk
    cases hbit : bitT (rowS k) t with
    | false =>
      rw [hbit] at e1 e2 cf
      rw [Bool.false_and] at e1 e2
      rw [E, if_pos ⟨e1, e2⟩]
      exact res_no _ t w cf
    | true =>
      rw [hbit] at cf e1 e2
      rw [if_pos rfl] at cf
      have hk1 : 1 ≤ k := by
        rcases Nat.eq_zero_or_pos k with rfl | h
        · rw [row_none] at hbit; exact absurd hbit (by decide)
        · exact h
      have hn : ¬ (has1 (k : Int) t = false ∧ has2 (k : Int) t = false) := fun h => by
        by_cases h14 : k ≤ 14
        · rw [e2, Nat.ble_eq_true_of_le hk1, Nat.ble_eq_true_of_le h14] at h
          exact absurd h.2 (by decide)
        · rw [e1, Nat.ble_eq_true_of_le (show 15 ≤ k by omega)] at h
          exact absurd h.1 (by decide)
      have h1 : (rowTwo k).oneCell' = true := by unfold rowTwo; split <;> rfl
      have h2 : (rowOne k).oneCell' = true := by unfold rowOne; split <;> rfl
      have c := res_ok (k : Int) t _ _ _ _ _ h1 h2 w cf
      have e : (if rowCmp k = true then 1 else t : Int) = (if 9 ≤ (k : Int) ∧ (k : Int) ≤ 14 then (1, 0) else (t, 0) : Int × Int).1 ∧ (if 9 ≤ (k : Int) ∧ (k : Int) ≤ 14 then (1, 0) else (t, 0) : Int × Int).2 = 0 := by
        by_cases h9 : 9 ≤ k ∧ k ≤ 14
        · have e : rowCmp k = true := by unfold rowCmp; rw [Nat.ble_eq_true_of_le h9.1, Nat.ble_eq_true_of_le h9.2]; rfl
          rw [e, if_pos (show 9 ≤ (k : Int) ∧ (k : Int) ≤ 14 by omega)]; exact ⟨rfl, rfl⟩
        · have e : rowCmp k = false := by
            cases hx : rowCmp k with
            | false => rfl
            | true =>
              unfold rowCmp at hx
              rw [Bool.and_eq_true] at hx
              exact absurd ⟨Nat.le_of_ble_eq_true hx.1, Nat.le_of_ble_eq_true hx.2⟩ h9
          rw [e, if_neg (show ¬ (9 ≤ (k : Int) ∧ (k : Int) ≤ 14) by omega)]; exact ⟨rfl, rfl⟩
      rw [E, if_neg hn, ← e.1, e.2]
      exact c
end Go.Proofs.YtldjiieckddhkaaGreatDoor.Four
namespace Go.Proofs.YtldjiieckddhkaaGreatDoor.Four
open Go.RowKit
end Go.Proofs.YtldjiieckddhkaaGreatDoor.Four
namespace Go.Proofs.YtldjiieckddhkaaGreatDoor.Four
open Go.RowKit
set_option maxRecDepth 100000 in
set_option maxHeartbeats 1600000 in
theorem conv_any (f t n : Int) (w : World) (hg : Glo w) : Calls Tryz.prog 91 #[.int .i64 f, .int .i64 t, .int .i64 n] w fun e w' => e = .returned (.tuple #[.int .i64 (convN f t n).1, .int .i64 (convN f t n).2]) ∧ w' = w := by
  have c := isType_any
  have d := wrapped_any t n
  have b := fits_any f n w hg
  have E := hide (show convN f t n = if tyB f = false ∨ tyB t = false ∨ (decide (f = 1) != decide (t = 1)) = true then (0, 40) else if fitB f n = false then (0, 1) else (wrN t n, 0) from rfl)
  clear hg
  generalize fitB f n = B at *
  have c1 := c f
  have c2 := c t
  clear c
  cases hf : tyB f with
  | false =>
    rw [if_pos (.inl hf)] at E
    rw [hf] at c1
    clear hf c2 d b
    go_enter Tryz.func91, Tryz.ntmps91
    go_wp2_with fail
    refine (c1 _).mono ?_
    rintro e w1 ⟨rfl, rfl⟩
    go_wp2
    go_ret2
    exact ⟨by rw [E.out]; rfl, rfl⟩
  | true =>
    rw [hf] at c1
    cases ht : tyB t with
    | false =>
      rw [if_pos (.inr (.inl ht))] at E
      rw [ht] at c2
      clear hf ht d b
      go_enter Tryz.func91, Tryz.ntmps91
      go_wp2_with fail
      refine (c1 _).mono ?_
      rintro e w1 ⟨rfl, rfl⟩
      go_wp2_with fail
      refine (c2 _).mono ?_
      rintro e w1 ⟨rfl, rfl⟩
      go_wp2
      go_ret2
      exact ⟨by rw [E.out]; rfl, rfl⟩
    | true =>
      rw [ht] at c2
      by_cases hx : (decide (f = 1) != decide (t = 1)) = true
      · rw [if_pos (.inr (.inr hx))] at E
        have hx' : (f = 1 ∧ ¬ t = 1) ∨ (¬ f = 1 ∧ t = 1) := by
          by_cases h1 : f = 1 <;> by_cases h2 : t = 1 <;> simp [h1, h2] at hx ⊢
        have k1 : ¬ f = 1 → (f == 1) = false := fun h => by simp [h]
        have k2 : ¬ t = 1 → (t == 1) = false := fun h => by simp [h]
        clear hf ht d b hx
        have hx2 : (f = 1 ∧ (t == 1) = false) ∨ ((f == 1) = false ∧ t = 1) := hx'.imp (fun h => ⟨h.1, k2 h.2⟩) (fun h => ⟨k1 h.1, h.2⟩)
        clear k1 k2 hx'
        rcases hx2 with ⟨rfl, h2⟩ | ⟨h1, rfl⟩
        all_goals
          go_enter Tryz.func91, Tryz.ntmps91
          go_wp2_with fail
          refine (c1 _).mono ?_
          rintro e w1 ⟨rfl, rfl⟩
          go_wp2_with fail
          refine (c2 _).mono ?_
          rintro e w1 ⟨rfl, rfl⟩
          go_wp2
          go_ret2
          exact ⟨by rw [E.out]; rfl, rfl⟩
      · rw [if_neg (by rw [hf, ht]; simp only [Bool.true_eq_false, false_or]; exact hx)] at E
        have hx' : (f = 1 ∧ t = 1) ∨ (¬ f = 1 ∧ ¬ t = 1) := by
          by_cases h1 : f = 1 <;> by_cases h2 : t = 1 <;> simp [h1, h2] at hx ⊢
        have k1 : ¬ f = 1 → (f == 1) = false := fun h => by simp [h]
        have k2 : ¬ t = 1 → (t == 1) = false := fun h => by simp [h]
        clear hf ht hx
        cases B with
        | false =>
          rw [if_pos rfl] at E
          clear d
          have hx2 : (f = 1 ∧ t = 1) ∨ ((f == 1) = false ∧ (t == 1) = false) := hx'.imp id (fun h => ⟨k1 h.1, k2 h.2⟩)
          clear k1 k2 hx'
          rcases hx2 with ⟨rfl, rfl⟩ | ⟨h1, h2⟩
          all_goals
            go_enter Tryz.func91, Tryz.ntmps91
            go_wp2_with fail
            refine (c1 _).mono ?_
            rintro e w1 ⟨rfl, rfl⟩
            go_wp2_with fail
            refine (c2 _).mono ?_
            rintro e w1 ⟨rfl, rfl⟩
            go_wp2_with fail
            refine b.mono ?_
            rintro e w1 ⟨rfl, rfl⟩
            go_wp2
            go_ret2
            exact ⟨by rw [E.out]; rfl, rfl⟩
        | true =>
          rw [if_neg (by decide)] at E
          have hx2 : (f = 1 ∧ t = 1) ∨ ((f == 1) = false ∧ (t == 1) = false) := hx'.imp id (fun h => ⟨k1 h.1, k2 h.2⟩)
          clear k1 k2 hx'
          rcases hx2 with ⟨rfl, rfl⟩ | ⟨h1, h2⟩
          all_goals
            go_enter Tryz.func91, Tryz.ntmps91
            go_wp2_with fail
            refine (c1 _).mono ?_
            rintro e w1 ⟨rfl, rfl⟩
            go_wp2_with fail
            refine (c2 _).mono ?_
            rintro e w1 ⟨rfl, rfl⟩
            go_wp2_with fail
            refine b.mono ?_
            rintro e w1 ⟨rfl, rfl⟩
            go_wp2_with fail
            refine (d _).mono ?_
            rintro e w1 ⟨rfl, rfl⟩
            go_wp2
            go_ret2
            exact ⟨by rw [E.out]; rfl, rfl⟩
set_option maxRecDepth 100000 in
set_option maxHeartbeats 1600000 in
theorem convR_any (f t n : Int) (w : World) : Calls Tryz.prog 94 #[.int .i64 f, .int .i64 t, .int .i64 n] w fun e w' => e = .returned (.tuple #[.int .i64 (convN f t n).1, .int .i64 (convN f t n).2]) ∧ w' = w := by
  have c := type_any
  have d := wrappedR_any t n
  have b := fitsR_any f n w
  have E := hide (show convN f t n = if tyB f = false ∨ tyB t = false ∨ (decide (f = 1) != decide (t = 1)) = true then (0, 40) else if fitB f n = false then (0, 1) else (wrN t n, 0) from rfl)
  generalize fitB f n = B at *
  have c1 := c f
  have c2 := c t
  clear c
  cases hf : tyB f with
  | false =>
    rw [if_pos (.inl hf)] at E
    rw [hf] at c1
    clear hf c2 d b
    go_enter Tryz.func94, Tryz.ntmps94
    go_wp2_with fail
    refine (c1 _).mono ?_
    rintro e w1 ⟨rfl, rfl⟩
    go_wp2
    go_ret2
    exact ⟨by rw [E.out]; rfl, rfl⟩
  | true =>
    rw [hf] at c1
    cases ht : tyB t with
    | false =>
      rw [if_pos (.inr (.inl ht))] at E
      rw [ht] at c2
      clear hf ht d b
      go_enter Tryz.func94, Tryz.ntmps94
      go_wp2_with fail
      refine (c1 _).mono ?_
      rintro e w1 ⟨rfl, rfl⟩
      go_wp2_with fail
      refine (c2 _).mono ?_
      rintro e w1 ⟨rfl, rfl⟩
      go_wp2
      go_ret2
      exact ⟨by rw [E.out]; rfl, rfl⟩
    | true =>
      rw [ht] at c2
      by_cases hx : (decide (f = 1) != decide (t = 1)) = true
      · rw [if_pos (.inr (.inr hx))] at E
        have hx' : (f = 1 ∧ ¬ t = 1) ∨ (¬ f = 1 ∧ t = 1) := by
          by_cases h1 : f = 1 <;> by_cases h2 : t = 1 <;> simp [h1, h2] at hx ⊢
        have k1 : ¬ f = 1 → (f == 1) = false := fun h => by simp [h]
        have k2 : ¬ t = 1 → (t == 1) = false := fun h => by simp [h]
        clear hf ht d b hx
        have hx2 : (f = 1 ∧ (t == 1) = false) ∨ ((f == 1) = false ∧ t = 1) := hx'.imp (fun h => ⟨h.1, k2 h.2⟩) (fun h => ⟨k1 h.1, h.2⟩)
        clear k1 k2 hx'
        rcases hx2 with ⟨rfl, h2⟩ | ⟨h1, rfl⟩
        all_goals
          go_enter Tryz.func94, Tryz.ntmps94
          go_wp2_with fail
          refine (c1 _).mono ?_
          rintro e w1 ⟨rfl, rfl⟩
          go_wp2_with fail
          refine (c2 _).mono ?_
          rintro e w1 ⟨rfl, rfl⟩
          go_wp2
          go_ret2
          exact ⟨by rw [E.out]; rfl, rfl⟩
      · rw [if_neg (by rw [hf, ht]; simp only [Bool.true_eq_false, false_or]; exact hx)] at E
        have hx' : (f = 1 ∧ t = 1) ∨ (¬ f = 1 ∧ ¬ t = 1) := by
          by_cases h1 : f = 1 <;> by_cases h2 : t = 1 <;> simp [h1, h2] at hx ⊢
        have k1 : ¬ f = 1 → (f == 1) = false := fun h => by simp [h]
        have k2 : ¬ t = 1 → (t == 1) = false := fun h => by simp [h]
        clear hf ht hx
        cases B with
        | false =>
          rw [if_pos rfl] at E
          clear d
          have hx2 : (f = 1 ∧ t = 1) ∨ ((f == 1) = false ∧ (t == 1) = false) := hx'.imp id (fun h => ⟨k1 h.1, k2 h.2⟩)
          clear k1 k2 hx'
          rcases hx2 with ⟨rfl, rfl⟩ | ⟨h1, h2⟩
          all_goals
            go_enter Tryz.func94, Tryz.ntmps94
            go_wp2_with fail
            refine (c1 _).mono ?_
            rintro e w1 ⟨rfl, rfl⟩
            go_wp2_with fail
            refine (c2 _).mono ?_
            rintro e w1 ⟨rfl, rfl⟩
            go_wp2_with fail
            refine b.mono ?_
            rintro e w1 ⟨rfl, rfl⟩
            go_wp2
            go_ret2
            exact ⟨by rw [E.out]; rfl, rfl⟩
        | true =>
          rw [if_neg (by decide)] at E
          have hx2 : (f = 1 ∧ t = 1) ∨ ((f == 1) = false ∧ (t == 1) = false) := hx'.imp id (fun h => ⟨k1 h.1, k2 h.2⟩)
          clear k1 k2 hx'
          rcases hx2 with ⟨rfl, rfl⟩ | ⟨h1, h2⟩
          all_goals
            go_enter Tryz.func94, Tryz.ntmps94
            go_wp2_with fail
            refine (c1 _).mono ?_
            rintro e w1 ⟨rfl, rfl⟩
            go_wp2_with fail
            refine (c2 _).mono ?_
            rintro e w1 ⟨rfl, rfl⟩
            go_wp2_with fail
            refine b.mono ?_
            rintro e w1 ⟨rfl, rfl⟩
            go_wp2_with fail
            refine (d _).mono ?_
            rintro e w1 ⟨rfl, rfl⟩
            go_wp2
            go_ret2
            exact ⟨by rw [E.out]; rfl, rfl⟩
end Go.Proofs.YtldjiieckddhkaaGreatDoor.Four
