/- The contracts of quad's small functions. -/
import Derived.Test.YthifgfhgkdjkfaaDoorLeaf
import Derived.Test.YthifgfhgkdjkfaaDoorPlP
import Derived.WalkKit
import Derived.WalkSpells
import Derived.WalkLawsBesides
namespace Go.Proofs.YthifgfhgkdjkfaaDoor
open Go.RowKit
theorem run_store_complex {P : Program} (w : World) (a : Addr) (m : Mode) (k : FloatKind) (x y : Nat) : (store a (.complex k x y) m).run P w = stored P w a (.complex k x y) m := run_store P w a _ m rfl
theorem run_store_float {P : Program} (w : World) (a : Addr) (m : Mode) (k : FloatKind) (x : Nat) : (store a (.float k x) m).run P w = stored P w a (.float k x) m := run_store P w a _ m rfl
theorem unary_neg_float (k : FloatKind) (x : Nat) : Op.unary .neg (.float k x) = pure (.float k (Op.negFloat k x)) := rfl
attribute [local go_sem] run_store_complex run_store_float unary_neg_float
/-- the four places, as values -/
def crc : Array Value := #[.complex .f64 4607182418800017408 0, .complex .f64 0 4607182418800017408, .complex .f64 13830554455654793216 0, .complex .f64 0 13830554455654793216]
set_option maxHeartbeats 400000 in
theorem circle_any (w : World) : Calls Tryd.prog 44 #[] w fun e w' => e = .returned (.agg #[.complex .f64 4607182418800017408 0, .complex .f64 0 4607182418800017408, .complex .f64 13830554455654793216 0, .complex .f64 0 13830554455654793216]) ∧ w' = w.alloc (.cells crc 90) := by
  go_enter Tryd.func44, Tryd.ntmps44
  go_wp2
  exact bodyPost_ret (results_cell_row rfl _ _ w.heap.size 90 crc (0, 0) _ rfl (heap_alloc_new _ _) Tryd.underlying90 rfl (by kernel_rfl)) rfl ⟨rfl, rfl⟩
set_option maxHeartbeats 400000 in
theorem conj_any (a b : Nat) (w : World) : Calls Tryd.prog 119 #[.complex .f64 a b] w fun e w' => e = .returned (.complex .f64 a (Op.negFloat .f64 b)) ∧ w' = w := by
  go_enter Tryd.func119, Tryd.ntmps119
  go_wp2
  go_ret
  exact ⟨rfl, rfl⟩
set_option maxHeartbeats 400000 in
theorem placeOf_any (a b : Bool) (w : World) : Calls Tryd.prog 115 #[.bool a, .bool b] w fun e w' => (∃ x y, e = .returned (.complex .f64 x y) ∧ plc x y = some (if a && b then 2 else if a then 1 else if b then 3 else 0)) ∧ w' = w := by
  cases a <;> cases b
  all_goals
    go_enter Tryd.func115, Tryd.ntmps115
    go_wp2
    go_ret
    exact ⟨⟨_, _, rfl, rfl⟩, rfl⟩
set_option maxHeartbeats 400000 in
theorem refPlace_any (a b : Bool) (w : World) : Calls Tryd.prog 41 #[.bool a, .bool b] w fun e w' => e = .returned (.int .i64 (((if a && b then 2 else if a then 1 else if b then 3 else 0 : Nat) : Nat) : Int)) ∧ w' = w := by
  cases a <;> cases b
  all_goals
    go_enter Tryd.func41, Tryd.ntmps41
    go_wp2
    go_ret
    exact ⟨rfl, rfl⟩
/-- is a number a place's? -/
def isP (n : Int) : Bool := decide (0 ≤ n) && decide (n ≤ 3)
theorem isP_iff (n : Int) : isP n = true ↔ 0 ≤ n ∧ n ≤ 3 := by unfold isP; simp
theorem isP_nat {n : Int} (h : isP n = true) : ∃ k : Nat, k < 4 ∧ n = (k : Int) := ⟨n.toNat, by have := (isP_iff n).1 h; omega, by have := (isP_iff n).1 h; omega⟩
theorem isP_of {k : Nat} (h : k < 4) : isP (k : Int) = true := (isP_iff _).2 (by omega)
set_option maxHeartbeats 400000 in
theorem is_any (n : Int) (w : World) : Calls Tryd.prog 52 #[.int .i64 n] w fun e w' => e = .returned (.bool (isP n)) ∧ w' = w := by
  unfold isP
  by_cases h0 : 0 ≤ n <;> by_cases h3 : n ≤ 3
  all_goals
    go_enter Tryd.func52, Tryd.ntmps52
    go_wp2
    go_ret
    exact ⟨by simp [h0, h3], rfl⟩
/-- the step from a place to a place, and whether it jumped -/
def stp (m n : Nat) : Int := if (n + 4 - m) % 4 = 1 then 1 else if (n + 4 - m) % 4 = 3 then -1 else 0
def jmp (m n : Nat) : Bool := (n + 4 - m) % 4 == 2
/-- what Step answers -/
def stepV (m n : Int) : Int × Int := if isP m && isP n then (stp m.toNat n.toNat, if jmp m.toNat n.toNat then 110 else 0) else (0, 1)
set_option maxHeartbeats 400000 in
theorem refStep_any (m n : Int) (w : World) : Calls Tryd.prog 42 #[.int .i64 m, .int .i64 n] w fun e w' => e = .returned (.tuple #[.int .i64 (stepV m n).1, .int .i64 (stepV m n).2]) ∧ w' = w := by
  by_cases h : isP m = true
  · by_cases h2 : isP n = true
    · obtain ⟨a, ha, rfl⟩ := isP_nat h
      obtain ⟨b, hb, rfl⟩ := isP_nat h2
      clear h h2
      obtain rfl | rfl | rfl | rfl : a = 0 ∨ a = 1 ∨ a = 2 ∨ a = 3 := by omega
      all_goals
        obtain rfl | rfl | rfl | rfl : b = 0 ∨ b = 1 ∨ b = 2 ∨ b = 3 := by omega
        all_goals
          go_enter Tryd.func42, Tryd.ntmps42
          go_wp2
          go_ret2
          exact ⟨rfl, rfl⟩
    · have e : stepV m n = (0, 1) := by unfold stepV; simp [h, h2]
      rw [e]
      have i1 := (isP_iff m).1 h
      have i2 : ¬ (0 ≤ n ∧ n ≤ 3) := fun q => h2 ((isP_iff n).2 q)
      obtain ⟨i3, i4⟩ := i1
      clear h h2 e
      by_cases h0 : 0 ≤ n
      · have h3 : ¬ n ≤ 3 := fun q => i2 ⟨h0, q⟩
        clear i2
        go_enter Tryd.func42, Tryd.ntmps42
        go_wp2
        go_ret2
        exact ⟨rfl, rfl⟩
      · clear i2
        go_enter Tryd.func42, Tryd.ntmps42
        go_wp2
        go_ret2
        exact ⟨rfl, rfl⟩
  · have e : stepV m n = (0, 1) := by unfold stepV; simp [h]
    rw [e]
    have i2 : ¬ (0 ≤ m ∧ m ≤ 3) := fun q => h ((isP_iff m).2 q)
    clear h e
    by_cases h0 : 0 ≤ m
    · have h3 : ¬ m ≤ 3 := fun q => i2 ⟨h0, q⟩
      clear i2
      go_enter Tryd.func42, Tryd.ntmps42
      go_wp2
      go_ret2
      exact ⟨rfl, rfl⟩
    · clear i2
      go_enter Tryd.func42, Tryd.ntmps42
      go_wp2
      go_ret2
      exact ⟨rfl, rfl⟩
set_option maxHeartbeats 400000 in
theorem turnBy_none (n : Int) (h0 : ¬ n = 0) (h1 : ¬ n = 1) (h2 : ¬ n = -1) (w : World) : Calls Tryd.prog 33 #[.int .i64 n] w fun e w' => e = .returned (.tuple #[.complex .f64 0 0, .bool false]) ∧ w' = w := by
  go_enter Tryd.func33, Tryd.ntmps33
  go_wp2
  go_ret2
  exact ⟨rfl, rfl⟩
set_option maxHeartbeats 400000 in
theorem turnBy_some (n : Int) (h : n = 0 ∨ n = 1 ∨ n = -1) (w : World) : Calls Tryd.prog 33 #[.int .i64 n] w fun e w' => (∃ x y, e = .returned (.tuple #[.complex .f64 x y, .bool true]) ∧ plc x y = some ((n + 4) % 4).toNat) ∧ w' = w := by
  rcases h with rfl | rfl | rfl
  all_goals
    go_enter Tryd.func33, Tryd.ntmps33
    go_wp2
    go_ret2
    exact ⟨⟨_, _, rfl, rfl⟩, rfl⟩
set_option maxHeartbeats 400000 in
theorem between_any (a b c d m n : Nat) (h1 : plc a b = some m) (h2 : plc c d = some n) (w : World) : Calls Tryd.prog 118 #[.complex .f64 a b, .complex .f64 c d] w fun e w' => e = .returned (.tuple #[.int .i64 (stp m n), .bool (jmp m n)]) ∧ w' = w := by
  obtain ⟨x, y, e1, e2, e3, e4⟩ := mul_pl h2 (con_pl h1)
  have hm := plc_lt h1
  have hn := plc_lt h2
  have hk : (n + (4 - m) % 4) % 4 = (n + 4 - m) % 4 := by omega
  rw [hk] at e2
  have q0 := eq_0 e3 e4
  have q1 := eq_1 e3 e4
  have q3 := eq_3 e3 e4
  rw [e2] at q0 q1 q3
  have hmul : ∀ t W, (binOp .mul t (.complex .f64 c d) (.complex .f64 a (Op.negFloat .f64 b))).run Tryd.prog W = .ok (.complex .f64 x y) W := fun t W => run_complex_mul W t _ _ _ _ _ _ e1
  have m1 := fun W => conj_any a b W
  unfold stp jmp
  clear h1 h2 e1 e2 hk
  have hk : (n + 4 - m) % 4 < 4 := Nat.mod_lt _ (by decide)
  generalize (n + 4 - m) % 4 = k at *
  clear e3 e4 hm hn
  obtain rfl | rfl | rfl | rfl : k = 0 ∨ k = 1 ∨ k = 2 ∨ k = 3 := by omega
  all_goals
    clear hk
    simp only [Option.some.injEq] at q0 q1 q3
    go_enter Tryd.func118, Tryd.ntmps118
    go_wp2_with (first | (go_at_call 119; refine (m1 _).mono ?_; rintro e w1 ⟨rfl, rfl⟩))
    go_ret2
    exact ⟨rfl, rfl⟩
end Go.Proofs.YthifgfhgkdjkfaaDoor
