/- The contracts of num.Two, num.One and num.Result, whole. | verify: takeIndex; what take and leave do, way by way. -/
import Derived.Test.YtlckedionmgjjaaDoorMg6
import Derived.Test.YtlckedionmgjjaaDoorMg3
namespace Go.Proofs.YtlckedionmgjjaaDoor.Four
open Go.RowKit
theorem seventeen {k : Nat} (h : k < 17) : k = 0 ∨ k = 1 ∨ k = 2 ∨ k = 3 ∨ k = 4 ∨ k = 5 ∨ k = 6 ∨ k = 7 ∨ k = 8 ∨ k = 9 ∨ k = 10 ∨ k = 11 ∨ k = 12 ∨ k = 13 ∨ k = 14 ∨ k = 15 ∨ k = 16 := by omega
theorem four {t : Int} (h : tyB t = true) : t = 1 ∨ t = 2 ∨ t = 3 ∨ t = 4 := by
  unfold tyB at h
  rw [Bool.and_eq_true] at h
  have h1 := of_decide_eq_true h.1
  have h2 := of_decide_eq_true h.2
  omega
/-- which operations a row is of -/
theorem row_has (k : Nat) (hk : k < 17) (t : Int) : has2 (k : Int) t = (bitT (rowS k) t && (Nat.ble 1 k && Nat.ble k 14)) ∧ has1 (k : Int) t = (bitT (rowS k) t && Nat.ble 15 k) := by
  cases hT : tyB t with
  | false =>
    have e : bitT (rowS k) t = false := by unfold bitT; rw [hT]; rfl
    unfold has2 has1
    rw [e, hT]
    exact ⟨rfl, rfl⟩
  | true =>
    rcases seventeen hk with rfl | rfl | rfl | rfl | rfl | rfl | rfl | rfl | rfl | rfl | rfl | rfl | rfl | rfl | rfl | rfl | rfl <;> rcases four hT with rfl | rfl | rfl | rfl <;> decide
theorem row_none (t : Int) : bitT (rowS 0) t = false := by
  cases hT : tyB t with
  | false => unfold bitT; rw [hT]; rfl
  | true => rcases four hT with rfl | rfl | rfl | rfl <;> decide
theorem out_has {op : Int} (h : op < 0 ∨ 17 ≤ op) (t : Int) : has2 op t = false ∧ has1 op t = false := by
  constructor
  · cases e : has2 op t with
    | false => rfl
    | true => have := has2_op e; omega
  · cases e : has1 op t with
    | false => rfl
    | true => have := has1_op e; omega
theorem enter36 (args : Array Value) (W : World) : (callFunc 85 args).run Tryd.prog W = .ok (.enter 85 args) W := by simp [go_sem]
theorem enter37 (args : Array Value) (W : World) : (callFunc 86 args).run Tryd.prog W = .ok (.enter 86 args) W := by simp [go_sem]
theorem enter38 (args : Array Value) (W : World) : (callFunc 87 args).run Tryd.prog W = .ok (.enter 87 args) W := by simp [go_sem]
theorem enter39 (args : Array Value) (W : World) : (callFunc 88 args).run Tryd.prog W = .ok (.enter 88 args) W := by simp [go_sem]
theorem enter40 (args : Array Value) (W : World) : (callFunc 89 args).run Tryd.prog W = .ok (.enter 89 args) W := by simp [go_sem]
theorem enter41 (args : Array Value) (W : World) : (callFunc 90 args).run Tryd.prog W = .ok (.enter 90 args) W := by simp [go_sem]
theorem enter42 (args : Array Value) (W : World) : (callFunc 91 args).run Tryd.prog W = .ok (.enter 91 args) W := by simp [go_sem]
theorem enter43 (args : Array Value) (W : World) : (callFunc 92 args).run Tryd.prog W = .ok (.enter 92 args) W := by simp [go_sem]
theorem enter44 (args : Array Value) (W : World) : (callFunc 93 args).run Tryd.prog W = .ok (.enter 93 args) W := by simp [go_sem]
theorem enter46 (args : Array Value) (W : World) : (callFunc 95 args).run Tryd.prog W = .ok (.enter 95 args) W := by simp [go_sem]
theorem enter47 (args : Array Value) (W : World) : (callFunc 96 args).run Tryd.prog W = .ok (.enter 96 args) W := by simp [go_sem]
theorem enter48 (args : Array Value) (W : World) : (callFunc 97 args).run Tryd.prog W = .ok (.enter 97 args) W := by simp [go_sem]
theorem enter49 (args : Array Value) (W : World) : (callFunc 98 args).run Tryd.prog W = .ok (.enter 98 args) W := by simp [go_sem]
theorem enter50 (args : Array Value) (W : World) : (callFunc 99 args).run Tryd.prog W = .ok (.enter 99 args) W := by simp [go_sem]
theorem enter51 (args : Array Value) (W : World) : (callFunc 100 args).run Tryd.prog W = .ok (.enter 100 args) W := by simp [go_sem]
theorem enter52 (args : Array Value) (W : World) : (callFunc 101 args).run Tryd.prog W = .ok (.enter 101 args) W := by simp [go_sem]
theorem fn_two (k : Nat) (h1 : 1 ≤ k) (h14 : k ≤ 14) (a b : Int) (ra : R a) (rb : R b) (h0 : rowDiv k = true → b ≠ 0) :
    (∀ args W, (callFunc (fnNo k) args).run Tryd.prog W = .ok (.enter (fnNo k) args) W) ∧ ∀ W, Calls Tryd.prog (fnNo k) #[.int .i64 a, .int .i64 b] W fun e w' => e = .returned (.int .i64 (pureN (k : Int) a b)) ∧ w' = W := by
  have : k = 1 ∨ k = 2 ∨ k = 3 ∨ k = 4 ∨ k = 5 ∨ k = 6 ∨ k = 7 ∨ k = 8 ∨ k = 9 ∨ k = 10 ∨ k = 11 ∨ k = 12 ∨ k = 13 ∨ k = 14 := by omega
  rcases this with rfl | rfl | rfl | rfl | rfl | rfl | rfl | rfl | rfl | rfl | rfl | rfl | rfl | rfl
  · exact ⟨enter36, fun W => add_any a b ra rb W⟩
  · exact ⟨enter37, fun W => sub_any a b ra rb W⟩
  · exact ⟨enter38, fun W => mul_any a b ra rb W⟩
  · exact ⟨enter39, fun W => div_any a b ra (h0 rfl) W⟩
  · exact ⟨enter40, fun W => mod_any a b (h0 rfl) W⟩
  · exact ⟨enter41, fun W => and_any a b  W⟩
  · exact ⟨enter42, fun W => or_any a b  W⟩
  · exact ⟨enter43, fun W => xor_any a b  W⟩
  · exact ⟨enter44, fun W => eq_any a b  W⟩
  · exact ⟨enter46, fun W => ne_any a b  W⟩
  · exact ⟨enter47, fun W => lt_any a b  W⟩
  · exact ⟨enter48, fun W => le_any a b  W⟩
  · exact ⟨enter49, fun W => gt_any a b  W⟩
  · exact ⟨enter50, fun W => ge_any a b  W⟩
theorem two_wr (k : Nat) (h1 : 1 ≤ k) (h14 : k ≤ 14) (t a b : Int) : (wrN (if rowCmp k then 1 else t) (pureN (k : Int) a b), (0 : Int)) = if 9 ≤ (k : Int) then (pureN (k : Int) a b, 0) else (wrN t (pureN (k : Int) a b), 0) := by
  by_cases h9 : 9 ≤ k
  · have e : rowCmp k = true := by unfold rowCmp; rw [Nat.ble_eq_true_of_le h9, Nat.ble_eq_true_of_le h14]; rfl
    obtain ⟨c, hc⟩ := pure_flag (op := (k : Int)) (a := a) (b := b) (by omega)
    rw [e, if_pos rfl, if_pos (show 9 ≤ (k : Int) by omega), hc, wr_fit (flag_fit c)]
  · have e : rowCmp k = false := by
      unfold rowCmp
      cases hx : Nat.ble 9 k with
      | false => rfl
      | true => exact absurd (Nat.le_of_ble_eq_true hx) h9
    rw [e, if_neg (show ¬ 9 ≤ (k : Int) by omega)]; rfl
theorem rowDiv_iff (k : Nat) : rowDiv k = true ↔ ((k : Int) = 4 ∨ (k : Int) = 5) := by
  unfold rowDiv
  rw [Bool.or_eq_true, Nat.beq_eq, Nat.beq_eq]
  omega
theorem two_any (op t a b : Int) (w : World) (hg : Glo w) : Calls Tryd.prog 73 #[.int .i64 op, .int .i64 t, .int .i64 a, .int .i64 b] w fun e w' => e = .returned (.tuple #[.int .i64 (twoN op t a b).1, .int .i64 (twoN op t a b).2]) ∧ Below w.heap.size w w' := by
  have E : twoN op t a b = if has2 op t = false then (0, 40) else if fitB t a = false ∨ fitB t b = false then (0, 1) else if (op = 4 ∨ op = 5) ∧ b = 0 then (0, 41) else if 9 ≤ op then (pureN op a b, 0) else (wrN t (pureN op a b), 0) := rfl
  by_cases ho : op < 0 ∨ 17 ≤ op
  · rw [E, if_pos (out_has ho t).1]
    exact two_no op t a b w (find_out op t w ho)
  · obtain ⟨k, rfl⟩ : ∃ k : Nat, op = (k : Int) := ⟨op.toNat, by omega⟩
    have hk : k < 17 := by omega
    obtain ⟨e2, _⟩ := row_has k hk t
    have cf := find_in t w k hk
    cases hbit : bitT (rowS k) t with
    | false =>
      rw [hbit] at e2 cf
      rw [Bool.false_and] at e2
      rw [E, if_pos e2]
      exact two_no _ t a b w cf
    | true =>
      rw [hbit] at cf e2
      rw [if_pos rfl] at cf
      have hk1 : 1 ≤ k := by
        rcases Nat.eq_zero_or_pos k with rfl | h
        · rw [row_none] at hbit; exact absurd hbit (by decide)
        · exact h
      by_cases h14 : k ≤ 14
      · have e2' : has2 (k : Int) t = true := by rw [e2, Nat.ble_eq_true_of_le hk1, Nat.ble_eq_true_of_le h14]; rfl
        have er : rowV k = #[.int .u8 (rowS k), .bool (rowCmp k), .bool (rowDiv k), .func (.func (fnNo k)) #[] #[], .nilFunc] := by
          have u : rowTwo k = .func (.func (fnNo k)) #[] #[] := by unfold rowTwo; rw [Nat.ble_eq_true_of_le hk1, Nat.ble_eq_true_of_le h14]; rfl
          have v : rowOne k = .nilFunc := by
            unfold rowOne
            cases hx : Nat.ble 15 k with
            | false => rfl
            | true => have := Nat.le_of_ble_eq_true hx; omega
          unfold rowV; rw [u, v]
        rw [er] at cf
        rw [E, if_neg (by rw [e2']; decide)]
        by_cases hr : fitB t a = false ∨ fitB t b = false
        · rw [if_pos hr]
          exact two_range _ t a b _ _ _ _ w hg hr cf
        · rw [if_neg hr]
          have ha : fitB t a = true := by cases h : fitB t a with
            | false => exact absurd (.inl h) hr
            | true => rfl
          have hb : fitB t b = true := by cases h : fitB t b with
            | false => exact absurd (.inr h) hr
            | true => rfl
          by_cases hz : ((k : Int) = 4 ∨ (k : Int) = 5) ∧ b = 0
          · rw [if_pos hz]
            obtain ⟨h45, rfl⟩ := hz
            rw [(rowDiv_iff k).2 h45] at cf
            exact two_zero_div _ t a _ _ _ w hg ha hb cf
          · rw [if_neg hz, ← two_wr k hk1 h14 t a b]
            have h0 : rowDiv k = true → ¬ b = 0 := fun h hb0 => hz ⟨(rowDiv_iff k).1 h, hb0⟩
            obtain ⟨f1, f2⟩ := fn_two k hk1 h14 a b (R_of_fit ha) (R_of_fit hb) h0
            exact two_core _ t a b _ _ _ _ _ f1 w hg ha hb h0 f2 cf
      · have e2' : has2 (k : Int) t = false := by
          rw [e2]
          cases hx : Nat.ble k 14 with
          | false => simp
          | true => exact absurd (Nat.le_of_ble_eq_true hx) h14
        have er : rowV k = #[.int .u8 (rowS k), .bool (rowCmp k), .bool (rowDiv k), .nilFunc, .func (.func (fnNo k)) #[] #[]] := by
          have u : rowTwo k = .nilFunc := by
            unfold rowTwo
            cases hx : Nat.ble k 14 with
            | false => simp
            | true => exact absurd (Nat.le_of_ble_eq_true hx) h14
          have v : rowOne k = .func (.func (fnNo k)) #[] #[] := by unfold rowOne; rw [Nat.ble_eq_true_of_le (show 15 ≤ k by omega)]; rfl
          unfold rowV; rw [u, v]
        rw [er] at cf
        rw [E, if_pos e2']
        exact two_nil _ t a b _ _ _ _ w cf
theorem one_any (op t a : Int) (w : World) (hg : Glo w) : Calls Tryd.prog 74 #[.int .i64 op, .int .i64 t, .int .i64 a] w fun e w' => e = .returned (.tuple #[.int .i64 (oneN op t a).1, .int .i64 (oneN op t a).2]) ∧ Below w.heap.size w w' := by
  have E : oneN op t a = if has1 op t = false then (0, 40) else if fitB t a = false then (0, 1) else if op = 15 then (wrN t (-a), 0) else if t = 1 then (1 - a, 0) else (wrN t (-1 - a), 0) := rfl
  by_cases ho : op < 0 ∨ 17 ≤ op
  · rw [E, if_pos (out_has ho t).2]
    exact one_no op t a w (find_out op t w ho)
  · obtain ⟨k, rfl⟩ : ∃ k : Nat, op = (k : Int) := ⟨op.toNat, by omega⟩
    have hk : k < 17 := by omega
    obtain ⟨_, e2⟩ := row_has k hk t
    have cf := find_in t w k hk
    cases hbit : bitT (rowS k) t with
    | false =>
      rw [hbit] at e2 cf
      rw [Bool.false_and] at e2
      rw [E, if_pos e2]
      exact one_no _ t a w cf
    | true =>
      rw [hbit] at cf e2
      rw [if_pos rfl] at cf
      have hk1 : 1 ≤ k := by
        rcases Nat.eq_zero_or_pos k with rfl | h
        · rw [row_none] at hbit; exact absurd hbit (by decide)
        · exact h
      by_cases h14 : k ≤ 14
      · have e2' : has1 (k : Int) t = false := by
          rw [e2]
          cases hx : Nat.ble 15 k with
          | false => rfl
          | true => have := Nat.le_of_ble_eq_true hx; omega
        have er : rowV k = #[.int .u8 (rowS k), .bool (rowCmp k), .bool (rowDiv k), .func (.func (fnNo k)) #[] #[], .nilFunc] := by
          have u : rowTwo k = .func (.func (fnNo k)) #[] #[] := by unfold rowTwo; rw [Nat.ble_eq_true_of_le hk1, Nat.ble_eq_true_of_le h14]; rfl
          have v : rowOne k = .nilFunc := by
            unfold rowOne
            cases hx : Nat.ble 15 k with
            | false => rfl
            | true => have := Nat.le_of_ble_eq_true hx; omega
          unfold rowV; rw [u, v]
        rw [er] at cf
        rw [E, if_pos e2']
        exact one_nil _ t a _ _ _ _ w cf
      · have e2' : has1 (k : Int) t = true := by rw [e2, Nat.ble_eq_true_of_le (show 15 ≤ k by omega)]; rfl
        have er : rowV k = #[.int .u8 (rowS k), .bool (rowCmp k), .bool (rowDiv k), .nilFunc, .func (.func (fnNo k)) #[] #[]] := by
          have u : rowTwo k = .nilFunc := by
            unfold rowTwo
            cases hx : Nat.ble k 14 with
            | false => simp
            | true => exact absurd (Nat.le_of_ble_eq_true hx) h14
          have v : rowOne k = .func (.func (fnNo k)) #[] #[] := by unfold rowOne; rw [Nat.ble_eq_true_of_le (show 15 ≤ k by omega)]; rfl
          unfold rowV; rw [u, v]
        rw [er] at cf
        rw [E, if_neg (by rw [e2']; decide)]
        cases ha : fitB t a with
        | false =>
          rw [if_pos rfl]
          exact one_range _ t a _ _ _ _ w hg ha cf
        | true =>
          rw [if_neg (by decide)]
          have h1516 : k = 15 ∨ k = 16 := by omega
          rcases h1516 with rfl | rfl
          · rw [if_pos (show ((15 : Nat) : Int) = 15 from rfl)]
            exact one_core _ t a _ (-a) _ _ _ enter51 w hg ha (fun W => neg_any a (R_of_fit ha) W) cf
          · rw [if_neg (show ¬ ((16 : Nat) : Int) = 15 by decide)]
            by_cases h1 : t = 1
            · subst h1
              rw [if_pos rfl]
              have e : wrN 1 (-1 - a) = 1 - a := by
                rw [wr_one]
                rcases fit_one ha with rfl | rfl <;> decide
              have := one_core 16 1 a _ (-1 - a) _ _ _ enter52 w hg ha (fun W => not_any a (R_of_fit ha) W) cf
              rw [show (if rowCmp 16 = true then 1 else 1 : Int) = 1 from rfl, e] at this
              exact this
            · rw [if_neg h1]
              exact one_core _ t a _ (-1 - a) _ _ _ enter52 w hg ha (fun W => not_any a (R_of_fit ha) W) cf
theorem res_any (op t : Int) (w : World) : Calls Tryd.prog 80 #[.int .i64 op, .int .i64 t] w fun e w' => e = .returned (.tuple #[.int .i64 (resN op t).1, .int .i64 (resN op t).2]) ∧ Below w.heap.size w w' := by
  have E : resN op t = if has1 op t = false ∧ has2 op t = false then (0, 40) else if 9 ≤ op ∧ op ≤ 14 then (1, 0) else (t, 0) := rfl
  by_cases ho : op < 0 ∨ 17 ≤ op
  · rw [E, if_pos (out_has ho t).symm]
    exact res_no op t w (find_out op t w ho)
  · obtain ⟨k, rfl⟩ : ∃ k : Nat, op = (k : Int) := ⟨op.toNat, by omega⟩
    have hk : k < 17 := by omega
    obtain ⟨e2, e1⟩ := row_has k hk t
    have cf := find_in t w k hk
    cases hbit : bitT (rowS k) t with
    | false =>
      rw [hbit] at e1 e2 cf
      rw [Bool.false_and] at e1 e2
      rw [E, if_pos ⟨e1, e2⟩]
      exact res_no _ t w cf
    | true =>
      rw [hbit] at cf e1 e2
      rw [if_pos rfl] at cf
      have hk1 : 1 ≤ k := by
        rcases Nat.eq_zero_or_pos k with rfl | h
        · rw [row_none] at hbit; exact absurd hbit (by decide)
        · exact h
      have hn : ¬ (has1 (k : Int) t = false ∧ has2 (k : Int) t = false) := fun h => by
        by_cases h14 : k ≤ 14
        · rw [e2, Nat.ble_eq_true_of_le hk1, Nat.ble_eq_true_of_le h14] at h
          exact absurd h.2 (by decide)
        · rw [e1, Nat.ble_eq_true_of_le (show 15 ≤ k by omega)] at h
          exact absurd h.1 (by decide)
      have h1 : (rowTwo k).oneCell' = true := by unfold rowTwo; split <;> rfl
      have h2 : (rowOne k).oneCell' = true := by unfold rowOne; split <;> rfl
      have c := res_ok (k : Int) t _ _ _ _ _ h1 h2 w cf
      have e : (if rowCmp k = true then 1 else t : Int) = (if 9 ≤ (k : Int) ∧ (k : Int) ≤ 14 then (1, 0) else (t, 0) : Int × Int).1 ∧ (if 9 ≤ (k : Int) ∧ (k : Int) ≤ 14 then (1, 0) else (t, 0) : Int × Int).2 = 0 := by
        by_cases h9 : 9 ≤ k ∧ k ≤ 14
        · have e : rowCmp k = true := by unfold rowCmp; rw [Nat.ble_eq_true_of_le h9.1, Nat.ble_eq_true_of_le h9.2]; rfl
          rw [e, if_pos (show 9 ≤ (k : Int) ∧ (k : Int) ≤ 14 by omega)]; exact ⟨rfl, rfl⟩
        · have e : rowCmp k = false := by
            cases hx : rowCmp k with
            | false => rfl
            | true =>
              unfold rowCmp at hx
              rw [Bool.and_eq_true] at hx
              exact absurd ⟨Nat.le_of_ble_eq_true hx.1, Nat.le_of_ble_eq_true hx.2⟩ h9
          rw [e, if_neg (show ¬ (9 ≤ (k : Int) ∧ (k : Int) ≤ 14) by omega)]; exact ⟨rfl, rfl⟩
      rw [E, if_neg hn, ← e.1, e.2]
      exact c
end Go.Proofs.YtlckedionmgjjaaDoor.Four
namespace Go.Proofs.YtlckedionmgjjaaDoor
open Go.RowKit
/-- a stack that may be -/
structure OkS (s : Stk) : Prop where
  len : s.length ≤ 64
  ty : ∀ t ∈ s, 1 ≤ t ∧ t ≤ 4
theorem il1 (w : World) (x : Int) : ILst (w.alloc (.cells #[.int .i64 x] 3)) (.slice (some ⟨w.heap.size, 0, none⟩) 1 1) [x] :=
  ⟨_, w.heap.size, 0, 1, rfl, fun _ => ⟨by simp, rfl⟩, fun i y h => by
    match i, h with
    | 0, h => obtain rfl := Option.some.inj h; exact (Lib.cell_of_heap (j := 0) (heap_alloc_new w _)).trans rfl⟩
theorem il2 (w : World) (x y : Int) : ILst (w.alloc (.cells #[.int .i64 x, .int .i64 y] 3)) (.slice (some ⟨w.heap.size, 0, none⟩) 2 2) [x, y] :=
  ⟨_, w.heap.size, 0, 2, rfl, fun _ => ⟨by simp, rfl⟩, fun i z h => by
    match i, h with
    | 0, h => obtain rfl := Option.some.inj h; exact (Lib.cell_of_heap (j := 0) (heap_alloc_new w _)).trans rfl
    | 1, h => obtain rfl := Option.some.inj h; exact (Lib.cell_of_heap (j := 1) (heap_alloc_new w _)).trans rfl⟩
theorem take_one (b : Nat) (x : Int) (s : Stk) (w W : World) (hS : Ob W b 76 (encS s)) (hs : OkS s) (hb : But b w W) :
    Calls Tryd.prog 78 #[.pointer (some ⟨b, 0, none⟩), .slice (some ⟨W.heap.size, 0, none⟩) 1 1] (W.alloc (.cells #[.int .i64 x] 3)) fun e w' => e = .returned (.bool (takeS [x] s).isSome) ∧ Ob w' b 76 (encS ((takeS [x] s).getD s)) ∧ But b w w' :=
  (stake_any b _ [x] s (W.alloc (.cells #[.int .i64 x] 3)) (hS.on ((Below.refl _ _).alloc (Nat.le_refl _) _) hS.lt) (il1 W x) hs.len hs.ty (by simp) (by simp)).mono fun _ _ ⟨h1, h2, h3⟩ => ⟨h1, h2, (hb.alloc _).trans h3⟩
set_option maxRecDepth 100000 in
set_option maxHeartbeats 1600000 in
theorem index_any (b : Nat) (s : Stk) (w W : World) (hS : Ob W b 76 (encS s)) (hs : OkS s) (hb : But b w W) :
    Calls Tryd.prog 79 #[.pointer (some ⟨b, 0, none⟩)] W fun e w' => e = .returned (.bool (takeS [2, 3] s).isSome) ∧ Ob w' b 76 (encS ((takeS [2, 3] s).getD s)) ∧ But b w w' := by
  have m : Calls Tryd.prog 78 #[.pointer (some ⟨b, 0, none⟩), .slice (some ⟨W.heap.size, 0, none⟩) 2 2] (W.alloc (.cells #[.int .i64 2, .int .i64 3] 3)) fun e w' => e = .returned (.bool (takeS [2, 3] s).isSome) ∧ Ob w' b 76 (encS ((takeS [2, 3] s).getD s)) ∧ But b w w' :=
    (stake_any b _ [2, 3] s (W.alloc (.cells #[.int .i64 2, .int .i64 3] 3)) (hS.on ((Below.refl _ _).alloc (Nat.le_refl _) _) hS.lt) (il2 W 2 3) hs.len hs.ty (by simp) (by simp)).mono fun _ _ ⟨h1, h2, h3⟩ => ⟨h1, h2, (hb.alloc _).trans h3⟩
  have M := hide m
  clear m hS hs hb
  generalize (takeS [2, 3] s).isSome = r at *
  generalize encS ((takeS [2, 3] s).getD s) = c at *
  go_enter Tryd.func79, Tryd.ntmps79
  go_wp2_with (go_at_call 78; refine M.out.mono ?_; rintro e w1 ⟨rfl, o1, b1⟩; have O1 := hide o1; have B1 := hide b1; clear o1 b1)
  go_ret
  exact ⟨rfl, O1.out, B1.out⟩
theorem take_ok' {ts : List Int} {s t : Stk} (h : takeS ts s = some t) (hs : OkS s) : OkS t := ⟨(take_ok h ⟨hs.len, hs.ty⟩).1.1, (take_ok h ⟨hs.len, hs.ty⟩).1.2⟩
theorem leave_ok' {a : Int} {s t : Stk} (h : leaveS a s = some t) (ha : 1 ≤ a ∧ a ≤ 4) (hs : OkS s) : OkS t := ⟨(leave_ok h ha ⟨hs.len, hs.ty⟩).1, (leave_ok h ha ⟨hs.len, hs.ty⟩).2⟩
theorem leave_on (b : Nat) (t : Int) (s : Stk) (w W : World) (hS : Ob W b 76 (encS s)) (hs : OkS s) (ht : 1 ≤ t ∧ t ≤ 4) (hb : But b w W) :
    Calls Tryd.prog 77 #[.pointer (some ⟨b, 0, none⟩), .int .i64 t] W fun e w' => e = .returned (.bool (leaveS t s).isSome) ∧ Ob w' b 76 (encS ((leaveS t s).getD s)) ∧ But b w w' :=
  (leave_any b t s W hS hs.len ht).mono fun _ _ ⟨h1, h2, h3⟩ => ⟨h1, h2, hb.trans h3⟩
theorem leave_no {b : Nat} {t : Int} {s : Stk} {w W : World} (h : leaveS t s = none) (hs : OkS s) (ht : 1 ≤ t ∧ t ≤ 4) (hS : Ob W b 76 (encS s)) (hb : But b w W) :
    Calls Tryd.prog 77 #[.pointer (some ⟨b, 0, none⟩), .int .i64 t] W fun e w' => e = .returned (.bool false) ∧ But b w w' := (leave_on b t s w W hS hs ht hb).mono fun _ _ ⟨h1, _, h3⟩ => ⟨by rw [h1, h]; rfl, h3⟩
theorem leave_yes {b : Nat} {t : Int} {s s' : Stk} {w W : World} (h : leaveS t s = some s') (hs : OkS s) (ht : 1 ≤ t ∧ t ≤ 4) (hS : Ob W b 76 (encS s)) (hb : But b w W) :
    Calls Tryd.prog 77 #[.pointer (some ⟨b, 0, none⟩), .int .i64 t] W fun e w' => e = .returned (.bool true) ∧ Ob w' b 76 (encS s') ∧ But b w w' := (leave_on b t s w W hS hs ht hb).mono fun _ _ ⟨h1, h2, h3⟩ => ⟨by rw [h1, h]; rfl, by rw [h] at h2; exact h2, h3⟩
theorem take_no {b : Nat} {x : Int} {s : Stk} {w W : World} (h : takeS [x] s = none) (hs : OkS s) (hS : Ob W b 76 (encS s)) (hb : But b w W) {g : Nat} (hg : g = W.heap.size) :
    Calls Tryd.prog 78 #[.pointer (some ⟨b, 0, none⟩), Value.slice (some ⟨g, 0, none⟩) 1 1] (W.alloc (.cells #[.int .i64 x] 3)) fun e w' => e = .returned (.bool false) ∧ But b w w' := by
  subst hg
  exact (take_one b x s w W hS hs hb).mono fun _ _ ⟨h1, _, h3⟩ => ⟨by rw [h1, h]; rfl, h3⟩
theorem take_yes {b : Nat} {x : Int} {s s' : Stk} {w W : World} (h : takeS [x] s = some s') (hs : OkS s) (hS : Ob W b 76 (encS s)) (hb : But b w W) {g : Nat} (hg : g = W.heap.size) :
    Calls Tryd.prog 78 #[.pointer (some ⟨b, 0, none⟩), Value.slice (some ⟨g, 0, none⟩) 1 1] (W.alloc (.cells #[.int .i64 x] 3)) fun e w' => e = .returned (.bool true) ∧ Ob w' b 76 (encS s') ∧ But b w w' := by
  subst hg
  exact (take_one b x s w W hS hs hb).mono fun _ _ ⟨h1, h2, h3⟩ => ⟨by rw [h1, h]; rfl, by rw [h] at h2; exact h2, h3⟩
theorem idx_no {b : Nat} {s : Stk} {w W : World} (h : takeS [2, 3] s = none) (hs : OkS s) (hS : Ob W b 76 (encS s)) (hb : But b w W) :
    Calls Tryd.prog 79 #[.pointer (some ⟨b, 0, none⟩)] W fun e w' => e = .returned (.bool false) ∧ But b w w' := (index_any b s w W hS hs hb).mono fun _ _ ⟨h1, _, h3⟩ => ⟨by rw [h1, h]; rfl, h3⟩
theorem idx_yes {b : Nat} {s s' : Stk} {w W : World} (h : takeS [2, 3] s = some s') (hs : OkS s) (hS : Ob W b 76 (encS s)) (hb : But b w W) :
    Calls Tryd.prog 79 #[.pointer (some ⟨b, 0, none⟩)] W fun e w' => e = .returned (.bool true) ∧ Ob w' b 76 (encS s') ∧ But b w w' := (index_any b s w W hS hs hb).mono fun _ _ ⟨h1, h2, h3⟩ => ⟨by rw [h1, h]; rfl, by rw [h] at h2; exact h2, h3⟩
/-! what an instruction that may be says of its own types -/
theorem may_push {ty : List Int} {m : Nat} {a b n : Int} (h : mayI ty m ⟨1, a, b, n⟩ = true) : 1 ≤ a ∧ a ≤ 4 := by
  unfold mayI rightB at h
  simp only [Bool.and_eq_true, if_true] at h
  have := Four.fit_ty h.2.2
  unfold Four.tyB at this
  simpa using this
theorem tyC_of {ty : List Int} {a : Int} (hty : ∀ t ∈ ty, 1 ≤ t ∧ t ≤ 4) (h : inB a ty.length = true) : ∃ k : Nat, a = (k : Int) ∧ k < ty.length ∧ ty[k]? = some (tyC ty a) ∧ 1 ≤ tyC ty a ∧ tyC ty a ≤ 4 := by
  unfold inB at h
  simp only [Bool.and_eq_true, decide_eq_true_eq] at h
  refine ⟨a.toNat, by omega, by omega, ?_⟩
  have hk : a.toNat < ty.length := by omega
  have e : ty[a.toNat]? = some (tyC ty a) := by
    unfold tyC
    rw [List.getD_eq_getElem?_getD, List.getElem?_eq_getElem hk]; rfl
  exact ⟨e, hty _ (List.mem_of_getElem? e)⟩
theorem may_cell {ty : List Int} {m : Nat} {op a b n : Int} (h : mayI ty m ⟨op, a, b, n⟩ = true) (ho : op = 2 ∨ op = 3 ∨ op = 4 ∨ op = 5) : inB a ty.length = true := by
  unfold mayI rightB at h
  simp only [Bool.and_eq_true] at h
  have h2 := h.2.2
  rcases ho with rfl | rfl | rfl | rfl
  · exact h2
  · exact h2
  · simp at h2
    unfold arrB fromB at h2
    simp only [Bool.and_eq_true] at h2
    exact h2.2.2.1.1
  · simp at h2
    unfold arrB fromB at h2
    simp only [Bool.and_eq_true] at h2
    exact h2.2.2.1.1
theorem ty_range {t : Int} (h : Four.tyB t = true) : 1 ≤ t ∧ t ≤ 4 := by
  unfold Four.tyB at h; simpa using h
theorem may_two {ty : List Int} {m : Nat} {a b n : Int} (h : mayI ty m ⟨6, a, b, n⟩ = true) : (1 ≤ b ∧ b ≤ 4) ∧ 1 ≤ (Four.resN a b).1 ∧ (Four.resN a b).1 ≤ 4 := by
  unfold mayI rightB at h
  simp only [Bool.and_eq_true] at h
  have h2 : Four.has2 a b = true := h.2.2
  have hb : Four.tyB b = true := by unfold Four.has2 at h2; rw [Bool.and_eq_true] at h2; exact h2.1
  refine ⟨ty_range hb, ?_⟩
  unfold Four.resN
  rw [if_neg (by rw [h2]; simp)]
  split
  · decide
  · exact ty_range hb
theorem may_one {ty : List Int} {m : Nat} {a b n : Int} (h : mayI ty m ⟨7, a, b, n⟩ = true) : 1 ≤ b ∧ b ≤ 4 := by
  unfold mayI rightB at h
  simp only [Bool.and_eq_true] at h
  have h2 : Four.has1 a b = true := h.2.2
  unfold Four.has1 at h2
  rw [Bool.and_eq_true] at h2
  exact ty_range h2.1
theorem may_to {ty : List Int} {m : Nat} {a b n : Int} (h : mayI ty m ⟨8, a, b, n⟩ = true) : (1 ≤ a ∧ a ≤ 4) ∧ 1 ≤ b ∧ b ≤ 4 := by
  unfold mayI rightB at h
  simp only [Bool.and_eq_true] at h
  have h2 : (Four.tyB a && (Four.tyB b && decide ((a = 1) ↔ (b = 1)))) = true := h.2.2
  simp only [Bool.and_eq_true] at h2
  exact ⟨ty_range h2.1, ty_range h2.2.1⟩
theorem may_op {ty : List Int} {m : Nat} {i : Ins} (h : mayI ty m i = true) : 1 ≤ i.op ∧ i.op ≤ 12 := by
  unfold mayI at h
  simp only [Bool.and_eq_true, decide_eq_true_eq] at h
  exact h.1
end Go.Proofs.YtlckedionmgjjaaDoor
