/- The contracts of the rows' functions: what comes of two values, or of one, ahead of wrapping; the document's pure. -/
import Derived.Test.YtldjiieckddhkaaGreatDoorMg20
namespace Go.Proofs.YtldjiieckddhkaaGreatDoor.Four
open Go.RowKit
/-- a value of at most 32 bits -/
def R (a : Int) : Prop := -2147483648 ≤ a ∧ a ≤ 2147483647
theorem R_of_fit {t a : Int} (h : fitB t a = true) : R a := by
  by_cases h1 : t = 1
  · subst h1
    rcases fit_one h with rfl | rfl <;> exact ⟨by decide, by decide⟩
  · obtain ⟨_, h2, h3⟩ := fit_range h1 h
    rcases sz_pos t with e | e <;> rw [e] at h2 h3 <;> exact ⟨by omega, by omega⟩
theorem w_add {a b : Int} (ha : R a) (hb : R b) : wrap64 (a + b) = a + b := by obtain ⟨_, _⟩ := ha; obtain ⟨_, _⟩ := hb; exact w64 (by omega) (by omega)
theorem w_sub {a b : Int} (ha : R a) (hb : R b) : wrap64 (a - b) = a - b := by obtain ⟨_, _⟩ := ha; obtain ⟨_, _⟩ := hb; exact w64 (by omega) (by omega)
theorem w_neg {a : Int} (ha : R a) : wrap64 (-a) = -a := by obtain ⟨_, _⟩ := ha; exact w64 (by omega) (by omega)
theorem w_mul {a b : Int} (ha : R a) (hb : R b) : wrap64 (a * b) = a * b := by
  obtain ⟨a1, a2⟩ := ha
  obtain ⟨b1, b2⟩ := hb
  have h : (a * b).natAbs ≤ 2147483648 * 2147483648 := by
    rw [Int.natAbs_mul]
    exact Nat.mul_le_mul (by omega) (by omega)
  exact w64 (by omega) (by omega)
theorem w_div {a b : Int} (ha : R a) : wrap64 (a.tdiv b) = a.tdiv b := by
  obtain ⟨a1, a2⟩ := ha
  have h : (a.tdiv b).natAbs ≤ 2147483648 := by
    rw [Int.natAbs_tdiv]
    exact Nat.le_trans (Nat.div_le_self _ _) (by omega)
  exact w64 (by omega) (by omega)
theorem w_not {a : Int} (ha : R a) : bits .xor .i64 (-1) a = -1 - a := by
  show IntKind.i64.wrap ((BitVec.ofInt 64 (-1) ^^^ BitVec.ofInt 64 a).toNat : Int) = _
  rw [show BitVec.ofInt 64 (-1) = BitVec.allOnes 64 from rfl, BitVec.allOnes_xor, BitVec.toNat_not, ofInt_mod]
  obtain ⟨_, _⟩ := ha
  simp [IntKind.wrap, IntKind.bits, IntKind.signed]
  omega
theorem ne_dec (a b : Int) : (a != b) = decide (a ≠ b) := by
  rw [Bool.eq_iff_iff]; simp
set_option maxRecDepth 100000 in
theorem add_any (a b : Int) (ha : R a) (hb : R b) (w : World) : Calls Tryz.prog 58 #[.int .i64 a, .int .i64 b] w fun e w' => e = .returned (.int .i64 (pureN 1 a b)) ∧ w' = w := by
  have E := hide (w_add ha hb)
  clear ha hb
  go_enter Tryz.func58, Tryz.ntmps58
  go_wp2
  go_ret
  exact ⟨ret_int (by first | rfl | exact E.out), rfl⟩
set_option maxRecDepth 100000 in
theorem sub_any (a b : Int) (ha : R a) (hb : R b) (w : World) : Calls Tryz.prog 59 #[.int .i64 a, .int .i64 b] w fun e w' => e = .returned (.int .i64 (pureN 2 a b)) ∧ w' = w := by
  have E := hide (w_sub ha hb)
  clear ha hb
  go_enter Tryz.func59, Tryz.ntmps59
  go_wp2
  go_ret
  exact ⟨ret_int (by first | rfl | exact E.out), rfl⟩
set_option maxRecDepth 100000 in
theorem mul_any (a b : Int) (ha : R a) (hb : R b) (w : World) : Calls Tryz.prog 60 #[.int .i64 a, .int .i64 b] w fun e w' => e = .returned (.int .i64 (pureN 3 a b)) ∧ w' = w := by
  have E := hide (w_mul ha hb)
  clear ha hb
  go_enter Tryz.func60, Tryz.ntmps60
  go_wp2
  go_ret
  exact ⟨ret_int (by first | rfl | exact E.out), rfl⟩
set_option maxRecDepth 100000 in
theorem div_any (a b : Int) (ha : R a) (h0 : b ≠ 0) (w : World) : Calls Tryz.prog 61 #[.int .i64 a, .int .i64 b] w fun e w' => e = .returned (.int .i64 (pureN 4 a b)) ∧ w' = w := by
  have E := hide (w_div (b := b) ha)
  clear ha
  go_enter Tryz.func61, Tryz.ntmps61
  go_wp2
  go_ret
  exact ⟨ret_int (by first | rfl | exact E.out), rfl⟩
set_option maxRecDepth 100000 in
theorem mod_any (a b : Int) (h0 : b ≠ 0) (w : World) : Calls Tryz.prog 62 #[.int .i64 a, .int .i64 b] w fun e w' => e = .returned (.int .i64 (pureN 5 a b)) ∧ w' = w := by
  go_enter Tryz.func62, Tryz.ntmps62
  go_wp2
  go_ret
  exact ⟨rfl, rfl⟩
set_option maxRecDepth 100000 in
theorem and_any (a b : Int)  (w : World) : Calls Tryz.prog 63 #[.int .i64 a, .int .i64 b] w fun e w' => e = .returned (.int .i64 (pureN 6 a b)) ∧ w' = w := by
  go_enter Tryz.func63, Tryz.ntmps63
  go_wp2
  go_ret
  exact ⟨rfl, rfl⟩
set_option maxRecDepth 100000 in
theorem or_any (a b : Int)  (w : World) : Calls Tryz.prog 64 #[.int .i64 a, .int .i64 b] w fun e w' => e = .returned (.int .i64 (pureN 7 a b)) ∧ w' = w := by
  go_enter Tryz.func64, Tryz.ntmps64
  go_wp2
  go_ret
  exact ⟨rfl, rfl⟩
set_option maxRecDepth 100000 in
theorem xor_any (a b : Int)  (w : World) : Calls Tryz.prog 65 #[.int .i64 a, .int .i64 b] w fun e w' => e = .returned (.int .i64 (pureN 8 a b)) ∧ w' = w := by
  go_enter Tryz.func65, Tryz.ntmps65
  go_wp2
  go_ret
  exact ⟨rfl, rfl⟩
set_option maxRecDepth 100000 in
theorem eq_any (a b : Int)  (w : World) : Calls Tryz.prog 66 #[.int .i64 a, .int .i64 b] w fun e w' => e = .returned (.int .i64 (pureN 9 a b)) ∧ w' = w := by
  have c := truth_any
  go_enter Tryz.func66, Tryz.ntmps66
  go_wp2_with fail
  refine (c _ _).mono ?_
  rintro e w1 ⟨rfl, rfl⟩
  go_wp2
  go_ret
  exact ⟨ret_int (by rfl), rfl⟩
set_option maxRecDepth 100000 in
theorem ne_any (a b : Int)  (w : World) : Calls Tryz.prog 68 #[.int .i64 a, .int .i64 b] w fun e w' => e = .returned (.int .i64 (pureN 10 a b)) ∧ w' = w := by
  have c := truth_any
  go_enter Tryz.func68, Tryz.ntmps68
  go_wp2_with fail
  refine (c _ _).mono ?_
  rintro e w1 ⟨rfl, rfl⟩
  go_wp2
  go_ret
  exact ⟨ret_int (by rw [ne_dec]; rfl), rfl⟩
set_option maxRecDepth 100000 in
theorem lt_any (a b : Int)  (w : World) : Calls Tryz.prog 69 #[.int .i64 a, .int .i64 b] w fun e w' => e = .returned (.int .i64 (pureN 11 a b)) ∧ w' = w := by
  have c := truth_any
  go_enter Tryz.func69, Tryz.ntmps69
  go_wp2_with fail
  refine (c _ _).mono ?_
  rintro e w1 ⟨rfl, rfl⟩
  go_wp2
  go_ret
  exact ⟨ret_int (by rfl), rfl⟩
set_option maxRecDepth 100000 in
theorem le_any (a b : Int)  (w : World) : Calls Tryz.prog 70 #[.int .i64 a, .int .i64 b] w fun e w' => e = .returned (.int .i64 (pureN 12 a b)) ∧ w' = w := by
  have c := truth_any
  go_enter Tryz.func70, Tryz.ntmps70
  go_wp2_with fail
  refine (c _ _).mono ?_
  rintro e w1 ⟨rfl, rfl⟩
  go_wp2
  go_ret
  exact ⟨ret_int (by rfl), rfl⟩
set_option maxRecDepth 100000 in
theorem gt_any (a b : Int)  (w : World) : Calls Tryz.prog 71 #[.int .i64 a, .int .i64 b] w fun e w' => e = .returned (.int .i64 (pureN 13 a b)) ∧ w' = w := by
  have c := truth_any
  go_enter Tryz.func71, Tryz.ntmps71
  go_wp2_with fail
  refine (c _ _).mono ?_
  rintro e w1 ⟨rfl, rfl⟩
  go_wp2
  go_ret
  exact ⟨ret_int (by rfl), rfl⟩
set_option maxRecDepth 100000 in
theorem ge_any (a b : Int)  (w : World) : Calls Tryz.prog 72 #[.int .i64 a, .int .i64 b] w fun e w' => e = .returned (.int .i64 (pureN 14 a b)) ∧ w' = w := by
  have c := truth_any
  go_enter Tryz.func72, Tryz.ntmps72
  go_wp2_with fail
  refine (c _ _).mono ?_
  rintro e w1 ⟨rfl, rfl⟩
  go_wp2
  go_ret
  exact ⟨ret_int (by rfl), rfl⟩
set_option maxRecDepth 100000 in
theorem neg_any (a : Int) (ha : R a) (w : World) : Calls Tryz.prog 73 #[.int .i64 a] w fun e w' => e = .returned (.int .i64 (-a)) ∧ w' = w := by
  have E := hide (w_neg ha)
  clear ha
  go_enter Tryz.func73, Tryz.ntmps73
  go_wp2
  go_ret
  exact ⟨ret_int E.out, rfl⟩
set_option maxRecDepth 100000 in
theorem not_any (a : Int) (ha : R a) (w : World) : Calls Tryz.prog 74 #[.int .i64 a] w fun e w' => e = .returned (.int .i64 (-1 - a)) ∧ w' = w := by
  have E := hide (w_not ha)
  clear ha
  go_enter Tryz.func74, Tryz.ntmps74
  go_wp2
  go_ret
  exact ⟨ret_int E.out, rfl⟩
set_option maxRecDepth 100000 in
set_option maxHeartbeats 1600000 in
theorem pure_any (op a b : Int) (ho : 1 ≤ op ∧ op ≤ 14) (ha : R a) (hb : R b) (h0 : (op = 4 ∨ op = 5) → b ≠ 0) (w : World) : Calls Tryz.prog 132 #[.int .i64 op, .int .i64 a, .int .i64 b] w fun e w' => e = .returned (.int .i64 (pureN op a b)) ∧ w' = w := by
  have c := flag_any
  have E1 := hide (w_add ha hb)
  have E2 := hide (w_sub ha hb)
  have E3 := hide (w_mul ha hb)
  have E4 := hide (w_div (b := b) ha)
  have : op = 1 ∨ op = 2 ∨ op = 3 ∨ op = 4 ∨ op = 5 ∨ op = 6 ∨ op = 7 ∨ op = 8 ∨ op = 9 ∨ op = 10 ∨ op = 11 ∨ op = 12 ∨ op = 13 ∨ op = 14 := by omega
  clear ho ha hb
  rcases this with rfl | rfl | rfl | rfl | rfl | rfl | rfl | rfl | rfl | rfl | rfl | rfl | rfl | rfl
  · clear h0 c
    go_enter Tryz.func132, Tryz.ntmps132
    go_wp2
    go_ret
    exact ⟨ret_int (by exact E1.out), rfl⟩
  · clear h0 c
    go_enter Tryz.func132, Tryz.ntmps132
    go_wp2
    go_ret
    exact ⟨ret_int (by exact E2.out), rfl⟩
  · clear h0 c
    go_enter Tryz.func132, Tryz.ntmps132
    go_wp2
    go_ret
    exact ⟨ret_int (by exact E3.out), rfl⟩
  · have h := h0 (by omega)
    clear h0 c
    go_enter Tryz.func132, Tryz.ntmps132
    go_wp2
    go_ret
    exact ⟨ret_int (by exact E4.out), rfl⟩
  · have h := h0 (by omega)
    clear h0 c
    go_enter Tryz.func132, Tryz.ntmps132
    go_wp2
    go_ret
    exact ⟨ret_int (by rfl), rfl⟩
  · clear h0 c
    go_enter Tryz.func132, Tryz.ntmps132
    go_wp2
    go_ret
    exact ⟨ret_int (by rfl), rfl⟩
  · clear h0 c
    go_enter Tryz.func132, Tryz.ntmps132
    go_wp2
    go_ret
    exact ⟨ret_int (by rfl), rfl⟩
  · clear h0 c
    go_enter Tryz.func132, Tryz.ntmps132
    go_wp2
    go_ret
    exact ⟨ret_int (by rfl), rfl⟩
  · clear h0
    go_enter Tryz.func132, Tryz.ntmps132
    go_wp2_with fail
    refine (c _ _).mono ?_
    rintro e w1 ⟨rfl, rfl⟩
    go_wp2
    go_ret
    exact ⟨ret_int (by rfl), rfl⟩
  · clear h0
    go_enter Tryz.func132, Tryz.ntmps132
    go_wp2_with fail
    refine (c _ _).mono ?_
    rintro e w1 ⟨rfl, rfl⟩
    go_wp2
    go_ret
    exact ⟨ret_int (by rw [ne_dec]; rfl), rfl⟩
  · clear h0
    go_enter Tryz.func132, Tryz.ntmps132
    go_wp2_with fail
    refine (c _ _).mono ?_
    rintro e w1 ⟨rfl, rfl⟩
    go_wp2
    go_ret
    exact ⟨ret_int (by rfl), rfl⟩
  · clear h0
    go_enter Tryz.func132, Tryz.ntmps132
    go_wp2_with fail
    refine (c _ _).mono ?_
    rintro e w1 ⟨rfl, rfl⟩
    go_wp2
    go_ret
    exact ⟨ret_int (by rfl), rfl⟩
  · clear h0
    go_enter Tryz.func132, Tryz.ntmps132
    go_wp2_with fail
    refine (c _ _).mono ?_
    rintro e w1 ⟨rfl, rfl⟩
    go_wp2
    go_ret
    exact ⟨ret_int (by rfl), rfl⟩
  · clear h0
    go_enter Tryz.func132, Tryz.ntmps132
    go_wp2_with fail
    refine (c _ _).mono ?_
    rintro e w1 ⟨rfl, rfl⟩
    go_wp2
    go_ret
    exact ⟨ret_int (by rfl), rfl⟩
end Go.Proofs.YtldjiieckddhkaaGreatDoor.Four
