/- The contracts of quad's small functions. | The contracts of quad.number, isPlace, Place, Unit, Lines, Turn, Step. -/
import Derived.Test.YthifgfhgkdjkfaaDoorMg0
import Derived.Test.YthifgfhgkdjkfaaDoorMg1
import Derived.WalkKit
import Derived.WalkSpells
import Derived.WalkLawsBesides
namespace Go.Proofs.YthifgfhgkdjkfaaDoor
open Go.RowKit
theorem run_store_complex {P : Program} (w : World) (a : Addr) (m : Mode) (k : FloatKind) (x y : Nat) : (store a (.complex k x y) m).run P w = stored P w a (.complex k x y) m := run_store P w a _ m rfl
theorem run_store_float {P : Program} (w : World) (a : Addr) (m : Mode) (k : FloatKind) (x : Nat) : (store a (.float k x) m).run P w = stored P w a (.float k x) m := run_store P w a _ m rfl
theorem unary_neg_float (k : FloatKind) (x : Nat) : Op.unary .neg (.float k x) = pure (.float k (Op.negFloat k x)) := rfl
attribute [local go_sem] run_store_complex run_store_float unary_neg_float
/-- the four places, as values -/
def crc : Array Value := #[.complex .f64 4607182418800017408 0, .complex .f64 0 4607182418800017408, .complex .f64 13830554455654793216 0, .complex .f64 0 13830554455654793216]
set_option maxHeartbeats 400000 in
theorem circle_any (w : World) : Calls Tryd.prog 44 #[] w fun e w' => e = .returned (.agg #[.complex .f64 4607182418800017408 0, .complex .f64 0 4607182418800017408, .complex .f64 13830554455654793216 0, .complex .f64 0 13830554455654793216]) ∧ w' = w.alloc (.cells crc 90) := by
  go_enter Tryd.func44, Tryd.ntmps44
  go_wp2
  exact bodyPost_ret (results_cell_row rfl _ _ w.heap.size 90 crc (0, 0) _ rfl (heap_alloc_new _ _) Tryd.underlying90 rfl (by kernel_rfl)) rfl ⟨rfl, rfl⟩
set_option maxHeartbeats 400000 in
theorem conj_any (a b : Nat) (w : World) : Calls Tryd.prog 119 #[.complex .f64 a b] w fun e w' => e = .returned (.complex .f64 a (Op.negFloat .f64 b)) ∧ w' = w := by
  go_enter Tryd.func119, Tryd.ntmps119
  go_wp2
  go_ret
  exact ⟨rfl, rfl⟩
set_option maxHeartbeats 400000 in
theorem placeOf_any (a b : Bool) (w : World) : Calls Tryd.prog 115 #[.bool a, .bool b] w fun e w' => (∃ x y, e = .returned (.complex .f64 x y) ∧ plc x y = some (if a && b then 2 else if a then 1 else if b then 3 else 0)) ∧ w' = w := by
  cases a <;> cases b
  all_goals
    go_enter Tryd.func115, Tryd.ntmps115
    go_wp2
    go_ret
    exact ⟨⟨_, _, rfl, rfl⟩, rfl⟩
set_option maxHeartbeats 400000 in
theorem refPlace_any (a b : Bool) (w : World) : Calls Tryd.prog 41 #[.bool a, .bool b] w fun e w' => e = .returned (.int .i64 (((if a && b then 2 else if a then 1 else if b then 3 else 0 : Nat) : Nat) : Int)) ∧ w' = w := by
  cases a <;> cases b
  all_goals
    go_enter Tryd.func41, Tryd.ntmps41
    go_wp2
    go_ret
    exact ⟨rfl, rfl⟩
/-- is a number a place's? -/
def isP (n : Int) : Bool := decide (0 ≤ n) && decide (n ≤ 3)
theorem isP_iff (n : Int) : isP n = true ↔ 0 ≤ n ∧ n ≤ 3 := by unfold isP; simp
theorem isP_nat {n : Int} (h : isP n = true) : ∃ k : Nat, k < 4 ∧ n = (k : Int) := ⟨n.toNat, by have := (isP_iff n).1 h; omega, by have := (isP_iff n).1 h; omega⟩
theorem isP_of {k : Nat} (h : k < 4) : isP (k : Int) = true := (isP_iff _).2 (by omega)
set_option maxHeartbeats 400000 in
theorem is_any (n : Int) (w : World) : Calls Tryd.prog 52 #[.int .i64 n] w fun e w' => e = .returned (.bool (isP n)) ∧ w' = w := by
  unfold isP
  by_cases h0 : 0 ≤ n <;> by_cases h3 : n ≤ 3
  all_goals
    go_enter Tryd.func52, Tryd.ntmps52
    go_wp2
    go_ret
    exact ⟨by simp [h0, h3], rfl⟩
/-- the step from a place to a place, and whether it jumped -/
def stp (m n : Nat) : Int := if (n + 4 - m) % 4 = 1 then 1 else if (n + 4 - m) % 4 = 3 then -1 else 0
def jmp (m n : Nat) : Bool := (n + 4 - m) % 4 == 2
/-- what Step answers -/
def stepV (m n : Int) : Int × Int := if isP m && isP n then (stp m.toNat n.toNat, if jmp m.toNat n.toNat then 110 else 0) else (0, 1)
set_option maxHeartbeats 400000 in
theorem refStep_any (m n : Int) (w : World) : Calls Tryd.prog 42 #[.int .i64 m, .int .i64 n] w fun e w' => e = .returned (.tuple #[.int .i64 (stepV m n).1, .int .i64 (stepV m n).2]) ∧ w' = w := by
  by_cases h : isP m = true
  · by_cases h2 : isP n = true
    · obtain ⟨a, ha, rfl⟩ := isP_nat h
      obtain ⟨b, hb, rfl⟩ := isP_nat h2
      clear h h2
      obtain rfl | rfl | rfl | rfl : a = 0 ∨ a = 1 ∨ a = 2 ∨ a = 3 := by omega
      all_goals
        obtain rfl | rfl | rfl | rfl : b = 0 ∨ b = 1 ∨ b = 2 ∨ b = 3 := by omega
        all_goals
          go_enter Tryd.func42, Tryd.ntmps42
          go_wp2
          go_ret2
          exact ⟨rfl, rfl⟩
    · have e : stepV m n = (0, 1) := by unfold stepV; simp [h, h2]
      rw [e]
      have i1 := (isP_iff m).1 h
      have i2 : ¬ (0 ≤ n ∧ n ≤ 3) := fun q => h2 ((isP_iff n).2 q)
      obtain ⟨i3, i4⟩ := i1
      clear h h2 e
      by_cases h0 : 0 ≤ n
      · have h3 : ¬ n ≤ 3 := fun q => i2 ⟨h0, q⟩
        clear i2
        go_enter Tryd.func42, Tryd.ntmps42
        go_wp2
        go_ret2
        exact ⟨rfl, rfl⟩
      · clear i2
        go_enter Tryd.func42, Tryd.ntmps42
        go_wp2
        go_ret2
        exact ⟨rfl, rfl⟩
  · have e : stepV m n = (0, 1) := by unfold stepV; simp [h]
    rw [e]
    have i2 : ¬ (0 ≤ m ∧ m ≤ 3) := fun q => h ((isP_iff m).2 q)
    clear h e
    by_cases h0 : 0 ≤ m
    · have h3 : ¬ m ≤ 3 := fun q => i2 ⟨h0, q⟩
      clear i2
      go_enter Tryd.func42, Tryd.ntmps42
      go_wp2
      go_ret2
      exact ⟨rfl, rfl⟩
    · clear i2
      go_enter Tryd.func42, Tryd.ntmps42
      go_wp2
      go_ret2
      exact ⟨rfl, rfl⟩
set_option maxHeartbeats 400000 in
theorem turnBy_none (n : Int) (h0 : ¬ n = 0) (h1 : ¬ n = 1) (h2 : ¬ n = -1) (w : World) : Calls Tryd.prog 33 #[.int .i64 n] w fun e w' => e = .returned (.tuple #[.complex .f64 0 0, .bool false]) ∧ w' = w := by
  go_enter Tryd.func33, Tryd.ntmps33
  go_wp2
  go_ret2
  exact ⟨rfl, rfl⟩
set_option maxHeartbeats 400000 in
theorem turnBy_some (n : Int) (h : n = 0 ∨ n = 1 ∨ n = -1) (w : World) : Calls Tryd.prog 33 #[.int .i64 n] w fun e w' => (∃ x y, e = .returned (.tuple #[.complex .f64 x y, .bool true]) ∧ plc x y = some ((n + 4) % 4).toNat) ∧ w' = w := by
  rcases h with rfl | rfl | rfl
  all_goals
    go_enter Tryd.func33, Tryd.ntmps33
    go_wp2
    go_ret2
    exact ⟨⟨_, _, rfl, rfl⟩, rfl⟩
set_option maxHeartbeats 400000 in
theorem between_any (a b c d m n : Nat) (h1 : plc a b = some m) (h2 : plc c d = some n) (w : World) : Calls Tryd.prog 118 #[.complex .f64 a b, .complex .f64 c d] w fun e w' => e = .returned (.tuple #[.int .i64 (stp m n), .bool (jmp m n)]) ∧ w' = w := by
  obtain ⟨x, y, e1, e2, e3, e4⟩ := mul_pl h2 (con_pl h1)
  have hm := plc_lt h1
  have hn := plc_lt h2
  have hk : (n + (4 - m) % 4) % 4 = (n + 4 - m) % 4 := by omega
  rw [hk] at e2
  have q0 := eq_0 e3 e4
  have q1 := eq_1 e3 e4
  have q3 := eq_3 e3 e4
  rw [e2] at q0 q1 q3
  have hmul : ∀ t W, (binOp .mul t (.complex .f64 c d) (.complex .f64 a (Op.negFloat .f64 b))).run Tryd.prog W = .ok (.complex .f64 x y) W := fun t W => run_complex_mul W t _ _ _ _ _ _ e1
  have m1 := fun W => conj_any a b W
  unfold stp jmp
  clear h1 h2 e1 e2 hk
  have hk : (n + 4 - m) % 4 < 4 := Nat.mod_lt _ (by decide)
  generalize (n + 4 - m) % 4 = k at *
  clear e3 e4 hm hn
  obtain rfl | rfl | rfl | rfl : k = 0 ∨ k = 1 ∨ k = 2 ∨ k = 3 := by omega
  all_goals
    clear hk
    simp only [Option.some.injEq] at q0 q1 q3
    go_enter Tryd.func118, Tryd.ntmps118
    go_wp2_with (first | (go_at_call 119; refine (m1 _).mono ?_; rintro e w1 ⟨rfl, rfl⟩))
    go_ret2
    exact ⟨rfl, rfl⟩
end Go.Proofs.YthifgfhgkdjkfaaDoor
namespace Go.Proofs.YthifgfhgkdjkfaaDoor
open Go.RowKit
attribute [local go_sem] run_store_complex run_store_float unary_neg_float
theorem crc_below (w : World) : Below w.heap.size w (w.alloc (.cells crc 90)) := (Below.refl _ _).alloc (Nat.le_refl _) _
theorem index_cell {ty e : TypeId} {n : Nat} (hu : Tryd.prog.underlying ty = some (.array n e)) (ha : ∀ W, (isAgg e).run Tryd.prog W = .ok false W) (hz : ∀ W, (sizeOf e).run Tryd.prog W = .ok 1 W) (cs : Array Value) (k : Nat) (hk : k < n) (v : Value) (hv : cs[k]? = some v) (W : World) :
    (Instr.index ty (.agg cs) (.int .i64 (k : Int))).run Tryd.prog W = .ok v W := by
  simp only [Instr.index, asIntOf, Sem.run_bind, Sem.run_pure, Result.andThen_ok, run_underlying hu]
  rw [if_pos ⟨by omega, by omega⟩]
  simp only [Sem.run_bind, hz, Result.andThen_ok, part, ha, Bool.false_eq_true, if_false, Int.toNat_natCast, Nat.mul_one, hv, Sem.run_pure]
theorem crc_at (k : Nat) (hk : k < 4) (v : Value) (hv : crc[k]? = some v) (W : World) : (Instr.index 90 (.agg crc) (.int .i64 (k : Int))).run Tryd.prog W = .ok v W :=
  index_cell Tryd.underlying90 (fun _ => Tryd.isAgg68 _) (fun _ => Tryd.sizeOf68 _) crc k hk v hv W
theorem crc_0 (W : World) : (Instr.index 90 (.agg #[.complex .f64 4607182418800017408 0, .complex .f64 0 4607182418800017408, .complex .f64 13830554455654793216 0, .complex .f64 0 13830554455654793216]) (.int .i64 0)).run Tryd.prog W = .ok (.complex .f64 4607182418800017408 0) W := crc_at 0 (by decide) _ rfl W
theorem crc_1 (W : World) : (Instr.index 90 (.agg #[.complex .f64 4607182418800017408 0, .complex .f64 0 4607182418800017408, .complex .f64 13830554455654793216 0, .complex .f64 0 13830554455654793216]) (.int .i64 1)).run Tryd.prog W = .ok (.complex .f64 0 4607182418800017408) W := crc_at 1 (by decide) _ rfl W
theorem crc_2 (W : World) : (Instr.index 90 (.agg #[.complex .f64 4607182418800017408 0, .complex .f64 0 4607182418800017408, .complex .f64 13830554455654793216 0, .complex .f64 0 13830554455654793216]) (.int .i64 2)).run Tryd.prog W = .ok (.complex .f64 13830554455654793216 0) W := crc_at 2 (by decide) _ rfl W
theorem crc_3 (W : World) : (Instr.index 90 (.agg #[.complex .f64 4607182418800017408 0, .complex .f64 0 4607182418800017408, .complex .f64 13830554455654793216 0, .complex .f64 0 13830554455654793216]) (.int .i64 3)).run Tryd.prog W = .ok (.complex .f64 0 13830554455654793216) W := crc_at 3 (by decide) _ rfl W
/-- what number answers -/
def numV (a b : Nat) : Value := match plc a b with
  | some n => .tuple #[.int .i64 ((n : Nat) : Int), .bool true]
  | none => .tuple #[.int .i64 0, .bool false]
set_option maxRecDepth 100000 in
set_option maxHeartbeats 800000 in
theorem number_any (a b : Nat) (ha : a < 18446744073709551616) (hb : b < 18446744073709551616) (w : World) : Calls Tryd.prog 34 #[.complex .f64 a b] w fun e w' => e = .returned (numV a b) ∧ Below w.heap.size w w' := by
  have HB := hide (crc_below w)
  have q0 := eq_0 ha hb
  have q1 := eq_1 ha hb
  have q2 := eq_2 ha hb
  have q3 := eq_3 ha hb
  have m1 := fun W => circle_any W
  have hlt : ∀ n, plc a b = some n → n < 4 := fun n h => plc_lt h
  have HLT := hide hlt
  clear ha hb hlt
  have HV : ∀ n, plc a b = some n → numV a b = .tuple #[.int .i64 ((n : Nat) : Int), .bool true] := fun n h => by unfold numV; rw [h]
  have HN : (∀ n, n < 4 → plc a b ≠ some n) → numV a b = .tuple #[.int .i64 0, .bool false] := fun h => by
    unfold numV
    cases hp : plc a b with
    | none => rfl
    | some n => exact absurd hp (h n (HLT.out n hp))
  generalize numV a b = V at *
  generalize plc a b = pp at *
  have HV := hide HV
  have HN := hide HN
  go_enter Tryd.func34, Tryd.ntmps34
  go_wp2_with (first | (go_at_call 44; refine (m1 _).mono ?_; rintro e w1 ⟨rfl, rfl⟩))
  generalize w.alloc (.cells crc 90) = w1 at *
  go_loopw [4, 5, 7] (fun _ _ i wr => ∃ k : Nat, k ≤ 4 ∧ i = .int .i64 (k : Int) ∧ Hid ((∀ j, j < k → pp ≠ some j) ∧ wr = w1)) (fun _ _ i _ => 4 - (intOf i).toNat)
  case atStart => exact ⟨0, by omega, rfl, fun j hj => absurd hj (Nat.not_lt_zero _), rfl⟩
  case round =>
    obtain ⟨k, hk, rfl, hh⟩ := hrel
    obtain ⟨hj, rfl⟩ := hh.out
    have HJ := hide hj
    clear hh hj
    obtain rfl | rfl | rfl | rfl | rfl : k = 0 ∨ k = 1 ∨ k = 2 ∨ k = 3 ∨ k = 4 := by omega
    · have x1 := crc_0
      by_cases h : pp = some 0
      · simp only [h] at q0
        have HE : Hid (V = .tuple #[.int .i64 0, .bool true]) := HV.out 0 h
        go_wp2
        go_ret2
        exact ⟨by rw [HE.out]; rfl, HB.out⟩
      · simp only [h] at q0
        go_wp2
        refine ⟨⟨1, by omega, rfl, fun j hj => (by
            rcases (show j < 0 ∨ j = 0 by omega) with h1 | rfl
            · exact HJ.out j h1
            · exact h), trivial⟩, by decide⟩
    · have x1 := crc_1
      by_cases h : pp = some 1
      · simp only [h] at q1
        have HE : Hid (V = .tuple #[.int .i64 1, .bool true]) := HV.out 1 h
        go_wp2
        go_ret2
        exact ⟨by rw [HE.out]; rfl, HB.out⟩
      · simp only [h] at q1
        go_wp2
        refine ⟨⟨2, by omega, rfl, fun j hj => (by
            rcases (show j < 1 ∨ j = 1 by omega) with h1 | rfl
            · exact HJ.out j h1
            · exact h), trivial⟩, by decide⟩
    · have x1 := crc_2
      by_cases h : pp = some 2
      · simp only [h] at q2
        have HE : Hid (V = .tuple #[.int .i64 2, .bool true]) := HV.out 2 h
        go_wp2
        go_ret2
        exact ⟨by rw [HE.out]; rfl, HB.out⟩
      · simp only [h] at q2
        go_wp2
        refine ⟨⟨3, by omega, rfl, fun j hj => (by
            rcases (show j < 2 ∨ j = 2 by omega) with h1 | rfl
            · exact HJ.out j h1
            · exact h), trivial⟩, by decide⟩
    · have x1 := crc_3
      by_cases h : pp = some 3
      · simp only [h] at q3
        have HE : Hid (V = .tuple #[.int .i64 3, .bool true]) := HV.out 3 h
        go_wp2
        go_ret2
        exact ⟨by rw [HE.out]; rfl, HB.out⟩
      · simp only [h] at q3
        go_wp2
        refine ⟨⟨4, by omega, rfl, fun j hj => (by
            rcases (show j < 3 ∨ j = 3 by omega) with h1 | rfl
            · exact HJ.out j h1
            · exact h), trivial⟩, by decide⟩
    · have HE : Hid (V = .tuple #[.int .i64 0, .bool false]) := HN.out HJ.out
      go_wp2
      go_ret2
      exact ⟨by rw [HE.out]; rfl, HB.out⟩
/-- the words of a place -/
def uRe (n : Nat) : Nat := match n with | 0 => 4607182418800017408 | 2 => 13830554455654793216 | _ => 0
def uIm (n : Nat) : Nat := match n with | 1 => 4607182418800017408 | 3 => 13830554455654793216 | _ => 0
theorem u_plc {n : Nat} (h : n < 4) : plc (uRe n) (uIm n) = some n := by
  obtain rfl | rfl | rfl | rfl : n = 0 ∨ n = 1 ∨ n = 2 ∨ n = 3 := by omega
  all_goals rfl
theorem two_below (w : World) (o1 o2 : Obj) : Below w.heap.size w ((w.alloc o1).alloc o2) := ((Below.refl _ _).alloc (Nat.le_refl _) _).alloc (by simp) _
set_option maxRecDepth 100000 in
set_option maxHeartbeats 800000 in
theorem unit_ok (n : Nat) (hn : n < 4) (w : World) : Calls Tryd.prog 32 #[.int .i64 (n : Int)] w fun e w' => e = .returned (.tuple #[.complex .f64 (uRe n) (uIm n), .int .i64 0]) ∧ Below w.heap.size w w' := by
  have m1 := fun W => circle_any W
  have HB := hide (two_below w)
  obtain rfl | rfl | rfl | rfl : n = 0 ∨ n = 1 ∨ n = 2 ∨ n = 3 := by omega
  all_goals
    clear hn
    go_enter Tryd.func32, Tryd.ntmps32
    go_wp2_with (first | (go_at_call 44; refine (m1 _).mono ?_; rintro e w1 ⟨rfl, rfl⟩))
    go_ret2
    exact ⟨rfl, HB.out _ _⟩
set_option maxRecDepth 100000 in
set_option maxHeartbeats 800000 in
theorem unit_no (n : Int) (hn : isP n = false) (w : World) : Calls Tryd.prog 32 #[.int .i64 n] w fun e w' => e = .returned (.tuple #[.complex .f64 0 0, .int .i64 1]) ∧ Below w.heap.size w w' := by
  have m1 := fun W => circle_any W
  have HB := hide (two_below w)
  have hn : ¬ (0 ≤ n ∧ n ≤ 3) := fun h => by rw [(isP_iff n).2 h] at hn; cases hn
  by_cases h0 : n < 0
  · clear hn
    go_enter Tryd.func32, Tryd.ntmps32
    go_wp2_with (first | (go_at_call 44; refine (m1 _).mono ?_; rintro e w1 ⟨rfl, rfl⟩))
    go_ret2
    exact ⟨rfl, HB.out _ _⟩
  · have h4 : 4 ≤ n := by omega
    clear hn
    go_enter Tryd.func32, Tryd.ntmps32
    go_wp2_with (first | (go_at_call 44; refine (m1 _).mono ?_; rintro e w1 ⟨rfl, rfl⟩))
    go_ret2
    exact ⟨rfl, HB.out _ _⟩
set_option maxHeartbeats 400000 in
theorem isPlace_any (a b : Nat) (ha : a < 18446744073709551616) (hb : b < 18446744073709551616) (w : World) : Calls Tryd.prog 117 #[.complex .f64 a b] w fun e w' => e = .returned (.bool (plc a b).isSome) ∧ Below w.heap.size w w' := by
  have m1 := fun W => number_any a b ha hb W
  unfold numV at m1
  clear ha hb
  cases hp : plc a b
  all_goals
    rw [hp] at m1
    simp only at m1
    go_enter Tryd.func117, Tryd.ntmps117
    go_wp2_with (first | (go_at_call 34; refine (m1 _).mono ?_; rintro e w1 ⟨rfl, hb1⟩))
    go_ret
    exact ⟨rfl, hb1⟩
/-- the number of the place of two lines -/
def pn (a b : Bool) : Nat := if a && b then 2 else if a then 1 else if b then 3 else 0
theorem pn_lt (a b : Bool) : pn a b < 4 := by cases a <;> cases b <;> decide
set_option maxHeartbeats 400000 in
theorem place_any (a b : Bool) (w : World) : Calls Tryd.prog 113 #[.bool a, .bool b] w fun e w' => e = .returned (.int .i64 ((pn a b : Nat) : Int)) ∧ Below w.heap.size w w' := by
  have m1 := fun W => placeOf_any a b W
  have m2 : Hid (∀ x y, plc x y = some (pn a b) → ∀ W, Calls Tryd.prog 34 #[.complex .f64 x y] W fun e w' => e = .returned (.tuple #[.int .i64 ((pn a b : Nat) : Int), .bool true]) ∧ Below W.heap.size W w') := fun x y h W => by
    have := number_any x y (plc_wf h).1 (plc_wf h).2 W
    unfold numV at this
    rw [h] at this
    exact this
  go_enter Tryd.func113, Tryd.ntmps113
  go_wp2_with (first | (go_at_call 115; refine (m1 _).mono ?_; rintro e w1 ⟨⟨x, y, rfl, hp⟩, rfl⟩; have HP := hide hp; clear hp) | (go_at_call 34; refine (m2.out _ _ HP.out _).mono ?_; rintro e w2 ⟨rfl, hb2⟩))
  go_ret
  exact ⟨rfl, hb2⟩
/-- the lines of a place -/
def lnA (n : Nat) : Bool := n == 1 || n == 2
def lnB (n : Nat) : Bool := n == 2 || n == 3
set_option maxHeartbeats 800000 in
theorem lines_ok (n : Nat) (hn : n < 4) (w : World) : Calls Tryd.prog 35 #[.int .i64 (n : Int)] w fun e w' => e = .returned (.tuple #[.bool (lnA n), .bool (lnB n), .int .i64 0]) ∧ Below w.heap.size w w' := by
  have m1 := fun W => unit_ok n hn W
  have hp := u_plc hn
  have q1 := eq_1 (plc_wf hp).1 (plc_wf hp).2
  have q2 := eq_2 (plc_wf hp).1 (plc_wf hp).2
  have q3 := eq_3 (plc_wf hp).1 (plc_wf hp).2
  rw [hp] at q1 q2 q3
  clear hp
  unfold lnA lnB
  generalize uRe n = x at *
  generalize uIm n = y at *
  obtain rfl | rfl | rfl | rfl : n = 0 ∨ n = 1 ∨ n = 2 ∨ n = 3 := by omega
  all_goals
    clear hn
    simp only [Option.some.injEq] at q1 q2 q3
    go_enter Tryd.func35, Tryd.ntmps35
    go_wp2_with (first | (go_at_call 32; refine (m1 _).mono ?_; rintro e w1 ⟨rfl, hb1⟩))
    go_ret3
    exact ⟨rfl, hb1⟩
set_option maxHeartbeats 800000 in
theorem lines_no (n : Int) (hn : isP n = false) (w : World) : Calls Tryd.prog 35 #[.int .i64 n] w fun e w' => e = .returned (.tuple #[.bool false, .bool false, .int .i64 1]) ∧ Below w.heap.size w w' := by
  have m1 := fun W => unit_no n hn W
  clear hn
  go_enter Tryd.func35, Tryd.ntmps35
  go_wp2_with (first | (go_at_call 32; refine (m1 _).mono ?_; rintro e w1 ⟨rfl, hb1⟩))
  go_ret3
  exact ⟨rfl, hb1⟩
theorem stp_jmp (m n : Nat) (h : jmp m n = true) : stp m n = 0 := by
  unfold jmp at h
  have := eq_of_beq h
  unfold stp
  rw [this]; rfl
/-- what Turn answers -/
def turnV (p q : Option Nat) : Int × Int := match p, q with
  | some m, some n => (stp m n, if jmp m n then 110 else 0)
  | _, _ => (0, 1)
set_option maxHeartbeats 800000 in
theorem turn_any (a b c d : Nat) (ha : a < 18446744073709551616) (hb : b < 18446744073709551616) (hc : c < 18446744073709551616) (hd : d < 18446744073709551616) (w : World) : Calls Tryd.prog 116 #[.complex .f64 a b, .complex .f64 c d] w fun e w' => e = .returned (.tuple #[.int .i64 (turnV (plc a b) (plc c d)).1, .int .i64 (turnV (plc a b) (plc c d)).2]) ∧ Below w.heap.size w w' := by
  have m1 := fun W => isPlace_any a b ha hb W
  have m2 := fun W => isPlace_any c d hc hd W
  clear ha hb hc hd
  cases hp : plc a b with
  | none =>
    rw [hp] at m1
    have e : turnV none (plc c d) = (0, 1) := rfl
    rw [e]
    clear e m2
    go_enter Tryd.func116, Tryd.ntmps116
    go_wp2_with (first | (go_at_call 117; (with_reducible refine (m1 _).mono ?_); rintro e w1 ⟨rfl, hb1⟩))
    go_ret2
    exact ⟨rfl, hb1⟩
  | some m =>
    cases hq : plc c d with
    | none =>
      rw [hp] at m1
      rw [hq] at m2
      have e : turnV (some m) none = (0, 1) := rfl
      rw [e]
      clear e hp hq
      go_enter Tryd.func116, Tryd.ntmps116
      go_wp2_with (first | (go_at_call 117; first | ((with_reducible refine (m1 _).mono ?_); rintro e w1 ⟨rfl, hb1⟩) | ((with_reducible refine (m2 _).mono ?_); rintro e w2 ⟨rfl, hb2⟩)))
      go_ret2
      exact ⟨rfl, hb1.trans (hb2.mono hb1.size)⟩
    | some n =>
      have m3 := fun W => between_any a b c d m n hp hq W
      rw [hp] at m1
      rw [hq] at m2
      have e : turnV (some m) (some n) = (stp m n, if jmp m n then 110 else 0) := rfl
      rw [e]
      have hj := stp_jmp m n
      clear e hp hq
      generalize stp m n = S at *
      cases hJ : jmp m n
      · rw [hJ] at m3
        clear hj
        go_enter Tryd.func116, Tryd.ntmps116
        go_wp2_with (first | (go_at_call 117; first | ((with_reducible refine (m1 _).mono ?_); rintro e w1 ⟨rfl, hb1⟩) | ((with_reducible refine (m2 _).mono ?_); rintro e w2 ⟨rfl, hb2⟩)) | (go_at_call 118; refine (m3 _).mono ?_; rintro e w3 ⟨rfl, rfl⟩))
        go_ret2
        exact ⟨rfl, hb1.trans (hb2.mono hb1.size)⟩
      · obtain rfl := hj hJ
        rw [hJ] at m3
        clear hj
        go_enter Tryd.func116, Tryd.ntmps116
        go_wp2_with (first | (go_at_call 117; first | ((with_reducible refine (m1 _).mono ?_); rintro e w1 ⟨rfl, hb1⟩) | ((with_reducible refine (m2 _).mono ?_); rintro e w2 ⟨rfl, hb2⟩)) | (go_at_call 118; refine (m3 _).mono ?_; rintro e w3 ⟨rfl, rfl⟩))
        go_ret2
        exact ⟨rfl, hb1.trans (hb2.mono hb1.size)⟩
set_option maxHeartbeats 800000 in
theorem step_any (m n : Int) (w : World) : Calls Tryd.prog 114 #[.int .i64 m, .int .i64 n] w fun e w' => e = .returned (.tuple #[.int .i64 (stepV m n).1, .int .i64 (stepV m n).2]) ∧ Below w.heap.size w w' := by
  by_cases h : isP m = true
  · obtain ⟨a, ha, rfl⟩ := isP_nat h
    have m1 := fun W => unit_ok a ha W
    by_cases h2 : isP n = true
    · obtain ⟨b, hb, rfl⟩ := isP_nat h2
      have m2 := fun W => unit_ok b hb W
      have p1 := u_plc ha
      have p2 := u_plc hb
      have m3 := fun W => turn_any _ _ _ _ (plc_wf p1).1 (plc_wf p1).2 (plc_wf p2).1 (plc_wf p2).2 W
      rw [p1, p2] at m3
      have e : stepV a b = turnV (some a) (some b) := by unfold stepV turnV; rw [h, h2]; rfl
      rw [e]
      clear e p1 p2 h h2 ha hb
      generalize turnV (some a) (some b) = S at *
      go_enter Tryd.func114, Tryd.ntmps114
      go_wp2_with (first | (go_at_call 32; first | ((with_reducible refine (m1 _).mono ?_); rintro e w1 ⟨rfl, hb1⟩) | ((with_reducible refine (m2 _).mono ?_); rintro e w2 ⟨rfl, hb2⟩)) | (go_at_call 116; refine (m3 _).mono ?_; rintro e w3 ⟨rfl, hb3⟩))
      go_ret2
      exact ⟨rfl, (hb1.trans (hb2.mono hb1.size)).trans (hb3.mono (Nat.le_trans hb1.size hb2.size))⟩
    · have m2 := fun W => unit_no n (Bool.eq_false_iff.2 h2) W
      have e : stepV a n = (0, 1) := by unfold stepV; simp [h2]
      rw [e]
      clear e h h2 ha
      go_enter Tryd.func114, Tryd.ntmps114
      go_wp2_with (first | (go_at_call 32; first | ((with_reducible refine (m1 _).mono ?_); rintro e w1 ⟨rfl, hb1⟩) | ((with_reducible refine (m2 _).mono ?_); rintro e w2 ⟨rfl, hb2⟩)))
      go_ret2
      exact ⟨rfl, hb1.trans (hb2.mono hb1.size)⟩
  · have m1 := fun W => unit_no m (Bool.eq_false_iff.2 h) W
    have e : stepV m n = (0, 1) := by unfold stepV; simp [h]
    rw [e]
    clear e h
    go_enter Tryd.func114, Tryd.ntmps114
    go_wp2_with (first | (go_at_call 32; refine (m1 _).mono ?_; rintro e w1 ⟨rfl, hb1⟩))
    go_ret2
    exact ⟨rfl, hb1⟩
end Go.Proofs.YthifgfhgkdjkfaaDoor
