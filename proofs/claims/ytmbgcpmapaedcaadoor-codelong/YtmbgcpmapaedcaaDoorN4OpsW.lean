/- The contracts of the rows' functions: what comes of two values, or of one, ahead of wrapping; the document's pure. -/
import Derived.Test.YtmbgcpmapaedcaaDoorN4Wr
namespace Go.Proofs.YtmbgcpmapaedcaaDoor.Four
open Go.RowKit
/-- a value of at most 32 bits -/
def R (a : Int) : Prop := -2147483648 ≤ a ∧ a ≤ 2147483647
theorem R_of_fit {t a : Int} (h : fitB t a = true) : R a := by
  by_cases h1 : t = 1
  · subst h1
    rcases fit_one h with rfl | rfl <;> exact ⟨by decide, by decide⟩
  · obtain ⟨_, h2, h3⟩ := fit_range h1 h
    rcases sz_pos t with e | e <;> rw [e] at h2 h3 <;> exact ⟨by omega, by omega⟩
theorem w_add {a b : Int} (ha : R a) (hb : R b) : wrap64 (a + b) = a + b := by obtain ⟨_, _⟩ := ha; obtain ⟨_, _⟩ := hb; exact w64 (by omega) (by omega)
theorem w_sub {a b : Int} (ha : R a) (hb : R b) : wrap64 (a - b) = a - b := by obtain ⟨_, _⟩ := ha; obtain ⟨_, _⟩ := hb; exact w64 (by omega) (by omega)
theorem w_neg {a : Int} (ha : R a) : wrap64 (-a) = -a := by obtain ⟨_, _⟩ := ha; exact w64 (by omega) (by omega)
theorem w_mul {a b : Int} (ha : R a) (hb : R b) : wrap64 (a * b) = a * b := by
  obtain ⟨a1, a2⟩ := ha
  obtain ⟨b1, b2⟩ := hb
  have h : (a * b).natAbs ≤ 2147483648 * 2147483648 := by
    rw [Int.natAbs_mul]
    exact Nat.mul_le_mul (by omega) (by omega)
  exact w64 (by omega) (by omega)
theorem w_div {a b : Int} (ha : R a) : wrap64 (a.tdiv b) = a.tdiv b := by
  obtain ⟨a1, a2⟩ := ha
  have h : (a.tdiv b).natAbs ≤ 2147483648 := by
    rw [Int.natAbs_tdiv]
    exact Nat.le_trans (Nat.div_le_self _ _) (by omega)
  exact w64 (by omega) (by omega)
theorem w_not {a : Int} (ha : R a) : bits .xor .i64 (-1) a = -1 - a := by
  show IntKind.i64.wrap ((BitVec.ofInt 64 (-1) ^^^ BitVec.ofInt 64 a).toNat : Int) = _
  rw [show BitVec.ofInt 64 (-1) = BitVec.allOnes 64 from rfl, BitVec.allOnes_xor, BitVec.toNat_not, ofInt_mod]
  obtain ⟨_, _⟩ := ha
  simp [IntKind.wrap, IntKind.bits, IntKind.signed]
  omega
theorem ne_dec (a b : Int) : (a != b) = decide (a ≠ b) := by
  rw [Bool.eq_iff_iff]; simp
set_option maxRecDepth 100000 in
theorem add_any (a b : Int) (ha : R a) (hb : R b) (w : World) : Calls Tryd.prog 71 #[.int .i64 a, .int .i64 b] w fun e w' => e = .returned (.int .i64 (pureN 1 a b)) ∧ w' = w := by
  have E := hide (w_add ha hb)
  clear ha hb
  go_enter Tryd.func71, Tryd.ntmps71
  go_wp2
  go_ret
  exact ⟨ret_int (by first | rfl | exact E.out), rfl⟩
set_option maxRecDepth 100000 in
theorem sub_any (a b : Int) (ha : R a) (hb : R b) (w : World) : Calls Tryd.prog 72 #[.int .i64 a, .int .i64 b] w fun e w' => e = .returned (.int .i64 (pureN 2 a b)) ∧ w' = w := by
  have E := hide (w_sub ha hb)
  clear ha hb
  go_enter Tryd.func72, Tryd.ntmps72
  go_wp2
  go_ret
  exact ⟨ret_int (by first | rfl | exact E.out), rfl⟩
set_option maxRecDepth 100000 in
theorem mul_any (a b : Int) (ha : R a) (hb : R b) (w : World) : Calls Tryd.prog 73 #[.int .i64 a, .int .i64 b] w fun e w' => e = .returned (.int .i64 (pureN 3 a b)) ∧ w' = w := by
  have E := hide (w_mul ha hb)
  clear ha hb
  go_enter Tryd.func73, Tryd.ntmps73
  go_wp2
  go_ret
  exact ⟨ret_int (by first | rfl | exact E.out), rfl⟩
set_option maxRecDepth 100000 in
theorem div_any (a b : Int) (ha : R a) (h0 : b ≠ 0) (w : World) : Calls Tryd.prog 74 #[.int .i64 a, .int .i64 b] w fun e w' => e = .returned (.int .i64 (pureN 4 a b)) ∧ w' = w := by
  have E := hide (w_div (b := b) ha)
  clear ha
  go_enter Tryd.func74, Tryd.ntmps74
  go_wp2
  go_ret
  exact ⟨ret_int (by first | rfl | exact E.out), rfl⟩
set_option maxRecDepth 100000 in
theorem mod_any (a b : Int) (h0 : b ≠ 0) (w : World) : Calls Tryd.prog 75 #[.int .i64 a, .int .i64 b] w fun e w' => e = .returned (.int .i64 (pureN 5 a b)) ∧ w' = w := by
  go_enter Tryd.func75, Tryd.ntmps75
  go_wp2
  go_ret
  exact ⟨rfl, rfl⟩
set_option maxRecDepth 100000 in
theorem and_any (a b : Int)  (w : World) : Calls Tryd.prog 76 #[.int .i64 a, .int .i64 b] w fun e w' => e = .returned (.int .i64 (pureN 6 a b)) ∧ w' = w := by
  go_enter Tryd.func76, Tryd.ntmps76
  go_wp2
  go_ret
  exact ⟨rfl, rfl⟩
set_option maxRecDepth 100000 in
theorem or_any (a b : Int)  (w : World) : Calls Tryd.prog 77 #[.int .i64 a, .int .i64 b] w fun e w' => e = .returned (.int .i64 (pureN 7 a b)) ∧ w' = w := by
  go_enter Tryd.func77, Tryd.ntmps77
  go_wp2
  go_ret
  exact ⟨rfl, rfl⟩
set_option maxRecDepth 100000 in
theorem xor_any (a b : Int)  (w : World) : Calls Tryd.prog 78 #[.int .i64 a, .int .i64 b] w fun e w' => e = .returned (.int .i64 (pureN 8 a b)) ∧ w' = w := by
  go_enter Tryd.func78, Tryd.ntmps78
  go_wp2
  go_ret
  exact ⟨rfl, rfl⟩
set_option maxRecDepth 100000 in
theorem eq_any (a b : Int)  (w : World) : Calls Tryd.prog 79 #[.int .i64 a, .int .i64 b] w fun e w' => e = .returned (.int .i64 (pureN 9 a b)) ∧ w' = w := by
  have c := truth_any
  go_enter Tryd.func79, Tryd.ntmps79
  go_wp2_with fail
  refine (c _ _).mono ?_
  rintro e w1 ⟨rfl, rfl⟩
  go_wp2
  go_ret
  exact ⟨ret_int (by rfl), rfl⟩
set_option maxRecDepth 100000 in
theorem ne_any (a b : Int)  (w : World) : Calls Tryd.prog 81 #[.int .i64 a, .int .i64 b] w fun e w' => e = .returned (.int .i64 (pureN 10 a b)) ∧ w' = w := by
  have c := truth_any
  go_enter Tryd.func81, Tryd.ntmps81
  go_wp2_with fail
  refine (c _ _).mono ?_
  rintro e w1 ⟨rfl, rfl⟩
  go_wp2
  go_ret
  exact ⟨ret_int (by rw [ne_dec]; rfl), rfl⟩
set_option maxRecDepth 100000 in
theorem lt_any (a b : Int)  (w : World) : Calls Tryd.prog 82 #[.int .i64 a, .int .i64 b] w fun e w' => e = .returned (.int .i64 (pureN 11 a b)) ∧ w' = w := by
  have c := truth_any
  go_enter Tryd.func82, Tryd.ntmps82
  go_wp2_with fail
  refine (c _ _).mono ?_
  rintro e w1 ⟨rfl, rfl⟩
  go_wp2
  go_ret
  exact ⟨ret_int (by rfl), rfl⟩
set_option maxRecDepth 100000 in
theorem le_any (a b : Int)  (w : World) : Calls Tryd.prog 83 #[.int .i64 a, .int .i64 b] w fun e w' => e = .returned (.int .i64 (pureN 12 a b)) ∧ w' = w := by
  have c := truth_any
  go_enter Tryd.func83, Tryd.ntmps83
  go_wp2_with fail
  refine (c _ _).mono ?_
  rintro e w1 ⟨rfl, rfl⟩
  go_wp2
  go_ret
  exact ⟨ret_int (by rfl), rfl⟩
set_option maxRecDepth 100000 in
theorem gt_any (a b : Int)  (w : World) : Calls Tryd.prog 84 #[.int .i64 a, .int .i64 b] w fun e w' => e = .returned (.int .i64 (pureN 13 a b)) ∧ w' = w := by
  have c := truth_any
  go_enter Tryd.func84, Tryd.ntmps84
  go_wp2_with fail
  refine (c _ _).mono ?_
  rintro e w1 ⟨rfl, rfl⟩
  go_wp2
  go_ret
  exact ⟨ret_int (by rfl), rfl⟩
set_option maxRecDepth 100000 in
theorem ge_any (a b : Int)  (w : World) : Calls Tryd.prog 85 #[.int .i64 a, .int .i64 b] w fun e w' => e = .returned (.int .i64 (pureN 14 a b)) ∧ w' = w := by
  have c := truth_any
  go_enter Tryd.func85, Tryd.ntmps85
  go_wp2_with fail
  refine (c _ _).mono ?_
  rintro e w1 ⟨rfl, rfl⟩
  go_wp2
  go_ret
  exact ⟨ret_int (by rfl), rfl⟩
set_option maxRecDepth 100000 in
theorem neg_any (a : Int) (ha : R a) (w : World) : Calls Tryd.prog 86 #[.int .i64 a] w fun e w' => e = .returned (.int .i64 (-a)) ∧ w' = w := by
  have E := hide (w_neg ha)
  clear ha
  go_enter Tryd.func86, Tryd.ntmps86
  go_wp2
  go_ret
  exact ⟨ret_int E.out, rfl⟩
set_option maxRecDepth 100000 in
theorem not_any (a : Int) (ha : R a) (w : World) : Calls Tryd.prog 87 #[.int .i64 a] w fun e w' => e = .returned (.int .i64 (-1 - a)) ∧ w' = w := by
  have E := hide (w_not ha)
  clear ha
  go_enter Tryd.func87, Tryd.ntmps87
  go_wp2
  go_ret
  exact ⟨ret_int E.out, rfl⟩
end Go.Proofs.YtmbgcpmapaedcaaDoor.Four
