/- Typed values that wrap around: plain definitions, and what follows of them (no program). | Small contracts: which numbers are types, truth as a number, the document's sizes; kind. -/
import Derived.WalkKit
import Derived.Test.YtlckedionmgjjaaDoorProg
import Derived.Deep.QuietTactic
import Derived.BigQuiet
namespace Go.Proofs.YtlckedionmgjjaaDoor.Four
open Go.RowKit
def tyB (t : Int) : Bool := decide (1 ≤ t) && decide (t ≤ 4)
/-- how many values a type but the first has -/
def szN (t : Int) : Int := if t = 2 then 65536 else 4294967296
def fitB (t n : Int) : Bool := if t = 1 then decide (n = 0) || decide (n = 1) else tyB t && (decide (-(szN t / 2) ≤ n) && decide (n < szN t / 2))
def wrN (t n : Int) : Int := if t = 1 then n % 2 else if szN t / 2 ≤ n % szN t then n % szN t - szN t else n % szN t
def has1 (op t : Int) : Bool := tyB t && ((decide (op = 15) && decide (t ≠ 1)) || (decide (op = 16) && decide (t ≠ 4)))
def has2 (op t : Int) : Bool := tyB t &&
  (if op = 1 ∨ op = 2 ∨ (11 ≤ op ∧ op ≤ 14) then decide (t ≠ 1) else if 3 ≤ op ∧ op ≤ 5 then decide (t = 2 ∨ t = 3) else if 6 ≤ op ∧ op ≤ 8 then decide (t ≠ 4) else decide (op = 9 ∨ op = 10))
def flagN (b : Bool) : Int := if b then 1 else 0
def pureN (op a b : Int) : Int :=
  if op = 1 then a + b else if op = 2 then a - b else if op = 3 then a * b else if op = 4 then a.tdiv b else if op = 5 then a.tmod b
  else if op = 6 then bits .and .i64 a b else if op = 7 then bits .or .i64 a b else if op = 8 then bits .xor .i64 a b
  else if op = 9 then flagN (decide (a = b)) else if op = 10 then flagN (decide (a ≠ b)) else if op = 11 then flagN (decide (a < b)) else if op = 12 then flagN (decide (a ≤ b)) else if op = 13 then flagN (decide (b < a)) else flagN (decide (b ≤ a))
def twoN (op t a b : Int) : Int × Int :=
  if has2 op t = false then (0, 40) else if fitB t a = false ∨ fitB t b = false then (0, 1) else if (op = 4 ∨ op = 5) ∧ b = 0 then (0, 41) else if 9 ≤ op then (pureN op a b, 0) else (wrN t (pureN op a b), 0)
def oneN (op t a : Int) : Int × Int :=
  if has1 op t = false then (0, 40) else if fitB t a = false then (0, 1) else if op = 15 then (wrN t (-a), 0) else if t = 1 then (1 - a, 0) else (wrN t (-1 - a), 0)
def resN (op t : Int) : Int × Int := if has1 op t = false ∧ has2 op t = false then (0, 40) else if 9 ≤ op ∧ op ≤ 14 then (1, 0) else (t, 0)
def wrapN (t n : Int) : Int × Int := if tyB t = false then (0, 40) else (wrN t n, 0)
def convN (f t n : Int) : Int × Int := if tyB f = false ∨ tyB t = false ∨ (decide (f = 1) != decide (t = 1)) = true then (0, 40) else if fitB f n = false then (0, 1) else (wrN t n, 0)
theorem sz_pos (t : Int) : szN t = 65536 ∨ szN t = 4294967296 := by unfold szN; split <;> simp
/-- wrapped, a value is the same modulo the type's size -/
theorem wr_mod {t : Int} (h : t ≠ 1) (n : Int) : wrN t n % szN t = n % szN t := by
  unfold wrN
  rw [if_neg h]
  rcases sz_pos t with e | e <;> rw [e] <;> split <;> omega
theorem wr_range {t : Int} (h : t ≠ 1) (n : Int) : -(szN t / 2) ≤ wrN t n ∧ wrN t n < szN t / 2 := by
  unfold wrN
  rw [if_neg h]
  rcases sz_pos t with e | e <;> rw [e] <;> split <;> omega
theorem wr_congr {t x y : Int} (h : t ≠ 1) (e : x % szN t = y % szN t) : wrN t x = wrN t y := by
  unfold wrN; rw [if_neg h, if_neg h, e]
theorem wr_one (n : Int) : wrN 1 n = n % 2 := by unfold wrN; rw [if_pos rfl]
theorem fit_wr {t : Int} (h : tyB t = true) (n : Int) : fitB t (wrN t n) = true := by
  by_cases h1 : t = 1
  · subst h1
    rw [wr_one]
    unfold fitB
    rw [if_pos rfl]
    simp; omega
  · obtain ⟨a, b⟩ := wr_range h1 n
    unfold fitB
    rw [if_neg h1, h, decide_eq_true a, decide_eq_true b]; rfl
theorem fit_range {t n : Int} (h1 : t ≠ 1) (h : fitB t n = true) : tyB t = true ∧ -(szN t / 2) ≤ n ∧ n < szN t / 2 := by
  unfold fitB at h
  rw [if_neg h1, Bool.and_eq_true, Bool.and_eq_true] at h
  exact ⟨h.1, of_decide_eq_true h.2.1, of_decide_eq_true h.2.2⟩
theorem fit_one {n : Int} (h : fitB 1 n = true) : n = 0 ∨ n = 1 := by
  unfold fitB at h
  rw [if_pos rfl, Bool.or_eq_true] at h
  rcases h with h | h
  · exact .inl (of_decide_eq_true h)
  · exact .inr (of_decide_eq_true h)
theorem fit_ty {t n : Int} (h : fitB t n = true) : tyB t = true := by
  by_cases h1 : t = 1
  · subst h1; decide
  · exact (fit_range h1 h).1
theorem wr_fit {t n : Int} (h : fitB t n = true) : wrN t n = n := by
  by_cases h1 : t = 1
  · subst h1
    rw [wr_one]
    rcases fit_one h with e | e <;> omega
  · obtain ⟨_, a, b⟩ := fit_range h1 h
    unfold wrN
    rw [if_neg h1]
    rcases sz_pos t with e | e <;> rw [e] at a b ⊢ <;> split <;> omega
theorem fit_iff {t : Int} (h : tyB t = true) (n : Int) : fitB t n = decide (wrN t n = n) := by
  cases hf : fitB t n with
  | true => rw [wr_fit hf, decide_eq_true rfl]
  | false =>
    symm
    refine decide_eq_false fun e => ?_
    have := fit_wr h n
    rw [e, hf] at this
    exact absurd this (by decide)
theorem wr_wr {t : Int} (h : tyB t = true) (n : Int) : wrN t (wrN t n) = wrN t n := wr_fit (fit_wr h n)
theorem wr_add {t : Int} (h : t ≠ 1) (x y : Int) : wrN t (wrN t x + y) = wrN t (x + y) := wr_congr h (by
  rw [Int.add_emod, wr_mod h, ← Int.add_emod])
theorem wr_add' {t : Int} (h : t ≠ 1) (x y : Int) : wrN t (x + wrN t y) = wrN t (x + y) := by rw [Int.add_comm, wr_add h, Int.add_comm]
theorem wr_mul {t : Int} (h : t ≠ 1) (x y : Int) : wrN t (wrN t x * y) = wrN t (x * y) := wr_congr h (by
  rw [Int.mul_emod, wr_mod h, ← Int.mul_emod])
theorem wr_mul' {t : Int} (h : t ≠ 1) (x y : Int) : wrN t (x * wrN t y) = wrN t (x * y) := by rw [Int.mul_comm, wr_mul h, Int.mul_comm]
theorem wr_sub {t : Int} (h : t ≠ 1) (x y : Int) : wrN t (wrN t x - y) = wrN t (x - y) := by rw [Int.sub_eq_add_neg, wr_add h, ← Int.sub_eq_add_neg]
theorem wr_neg {t : Int} (h : t ≠ 1) (x : Int) : wrN t (-wrN t x) = wrN t (-x) := by
  have := wr_mul' h (-1) x
  rw [Int.neg_one_mul, Int.neg_one_mul] at this; exact this
/-! the operations at whole types -/
theorem whole_ty {t : Int} (h : t = 2 ∨ t = 3) : tyB t = true ∧ t ≠ 1 := by rcases h with rfl | rfl <;> exact ⟨by decide, by decide⟩
theorem two_plain {op t a b : Int} (ho : has2 op t = true) (ha : fitB t a = true) (hb : fitB t b = true) (hz : ¬ ((op = 4 ∨ op = 5) ∧ b = 0)) : twoN op t a b = if 9 ≤ op then (pureN op a b, 0) else (wrN t (pureN op a b), 0) := by
  unfold twoN
  rw [if_neg (by rw [ho]; decide), if_neg (by rw [ha, hb]; decide), if_neg hz]
theorem has2_whole {op t : Int} (ht : t = 2 ∨ t = 3) (h : 1 ≤ op ∧ op ≤ 14) : has2 op t = true := by
  unfold has2
  rw [(whole_ty ht).1, Bool.true_and]
  rcases ht with rfl | rfl
  all_goals
    split
    · decide
    · split
      · decide
      · split
        · decide
        · exact decide_eq_true (by omega)
theorem two_add {t a b : Int} (ht : t = 2 ∨ t = 3) (ha : fitB t a = true) (hb : fitB t b = true) : twoN 1 t a b = (wrN t (a + b), 0) := by
  rw [two_plain (has2_whole ht (by decide)) ha hb (by omega)]; rfl
theorem two_sub {t a b : Int} (ht : t = 2 ∨ t = 3) (ha : fitB t a = true) (hb : fitB t b = true) : twoN 2 t a b = (wrN t (a - b), 0) := by
  rw [two_plain (has2_whole ht (by decide)) ha hb (by omega)]; rfl
theorem two_mul {t a b : Int} (ht : t = 2 ∨ t = 3) (ha : fitB t a = true) (hb : fitB t b = true) : twoN 3 t a b = (wrN t (a * b), 0) := by
  rw [two_plain (has2_whole ht (by decide)) ha hb (by omega)]; rfl
theorem two_div {t a b : Int} (ht : t = 2 ∨ t = 3) (ha : fitB t a = true) (hb : fitB t b = true) (h0 : b ≠ 0) : twoN 4 t a b = (wrN t (a.tdiv b), 0) := by
  rw [two_plain (has2_whole ht (by decide)) ha hb (by omega)]; rfl
theorem two_rem {t a b : Int} (ht : t = 2 ∨ t = 3) (ha : fitB t a = true) (hb : fitB t b = true) (h0 : b ≠ 0) : twoN 5 t a b = (wrN t (a.tmod b), 0) := by
  rw [two_plain (has2_whole ht (by decide)) ha hb (by omega)]; rfl
theorem two_xor {t a b : Int} (ht : t = 2 ∨ t = 3) (ha : fitB t a = true) (hb : fitB t b = true) : twoN 8 t a b = (wrN t (bits .xor .i64 a b), 0) := by
  rw [two_plain (has2_whole ht (by decide)) ha hb (by omega)]; rfl
theorem two_zero {t a : Int} (ht : t = 2 ∨ t = 3) (ha : fitB t a = true) (op : Int) (ho : op = 4 ∨ op = 5) : twoN op t a 0 = (0, 41) := by
  have hb : fitB t 0 = true := by rcases ht with rfl | rfl <;> decide
  unfold twoN
  rw [if_neg (by rw [has2_whole ht (by omega)]; decide), if_neg (by rw [ha, hb]; decide), if_pos ⟨ho, rfl⟩]
/-! rings -/
theorem ring_assoc_add {t : Int} (h : t ≠ 1) (a b c : Int) : wrN t (wrN t (a + b) + c) = wrN t (a + wrN t (b + c)) := by rw [wr_add h, wr_add' h, Int.add_assoc]
theorem ring_assoc_mul {t : Int} (h : t ≠ 1) (a b c : Int) : wrN t (wrN t (a * b) * c) = wrN t (a * wrN t (b * c)) := by rw [wr_mul h, wr_mul' h, Int.mul_assoc]
theorem ring_over {t : Int} (h : t ≠ 1) (a b c : Int) : wrN t (a * wrN t (b + c)) = wrN t (wrN t (a * b) + wrN t (a * c)) := by rw [wr_mul' h, wr_add h, wr_add' h, Int.mul_add]
theorem ring_back {t a : Int} (h : t ≠ 1) (ha : fitB t a = true) (b : Int) : wrN t (wrN t (a + b) - b) = a := by rw [wr_sub h, Int.add_sub_cancel, wr_fit ha]
/-- 'xor', bit by bit: its low bits are those of the two -/
theorem ofInt_mod (x : Int) : (BitVec.ofInt 64 x).toNat = (x % 18446744073709551616).toNat := by rw [BitVec.toNat_ofInt]; rfl
theorem i64_mod (n m : Int) (hm : m = 65536 ∨ m = 4294967296) : IntKind.i64.wrap n % m = n % m := by
  simp [IntKind.wrap, IntKind.bits, IntKind.signed]
  rcases hm with rfl | rfl <;> omega
theorem low_xor (x y m : Int) (k : Nat) (hk : m = ((2 ^ k : Nat) : Int)) (hm : m = 65536 ∨ m = 4294967296) : bits .xor .i64 x y % m = (((x % m).toNat ^^^ (y % m).toNat : Nat) : Int) := by
  have low : ∀ z : Int, (z % 18446744073709551616).toNat % 2 ^ k = (z % m).toNat := fun z => by
    have h : (2 ^ k : Nat) = m.toNat := by omega
    rw [h]
    rcases hm with rfl | rfl
    · show _ % 65536 = _; omega
    · show _ % 4294967296 = _; omega
  show IntKind.i64.wrap ((BitVec.ofInt 64 x ^^^ BitVec.ofInt 64 y).toNat : Int) % m = _
  rw [i64_mod _ _ hm, BitVec.toNat_xor, ofInt_mod, ofInt_mod, hk, ← Int.natCast_emod, Nat.xor_mod_two_pow, low, low, ← hk]
theorem sz_pow (t : Int) : ∃ k : Nat, szN t = ((2 ^ k : Nat) : Int) := by
  rcases sz_pos t with e | e
  · exact ⟨16, by rw [e]; rfl⟩
  · exact ⟨32, by rw [e]; rfl⟩
theorem xor_back {t a : Int} (h : t ≠ 1) (ha : fitB t a = true) (b : Int) : wrN t (bits .xor .i64 (wrN t (bits .xor .i64 a b)) b) = a := by
  obtain ⟨k, hk⟩ := sz_pow t
  have e : bits .xor .i64 (wrN t (bits .xor .i64 a b)) b % szN t = a % szN t := by
    rw [low_xor _ _ _ k hk (sz_pos t), wr_mod h, low_xor _ _ _ k hk (sz_pos t), Int.toNat_natCast, Nat.xor_assoc, Nat.xor_self, Nat.xor_zero]
    have := Int.emod_nonneg a (show szN t ≠ 0 by rcases sz_pos t with e | e <;> rw [e] <;> decide)
    omega
  rw [wr_congr h e, wr_fit ha]
/-! divisions -/
theorem tmod_abs (a b : Int) (h0 : b ≠ 0) : max (a.tmod b) (-(a.tmod b)) < max b (-b) := by
  have h1 := Int.natAbs_tmod a b
  have h2 : a.natAbs % b.natAbs < b.natAbs := Nat.mod_lt _ (by omega)
  omega
theorem tmod_sign (a b : Int) (h : a.tmod b ≠ 0) : (a.tmod b < 0) ↔ (a < 0) := by
  constructor
  · intro h1
    rcases Int.lt_or_le a 0 with h2 | h2
    · exact h2
    · have := Int.tmod_nonneg b h2; omega
  · intro h1
    have : (-a).tmod b = -(a.tmod b) := Int.neg_tmod a b
    have h3 := Int.tmod_nonneg b (show 0 ≤ -a by omega)
    omega
theorem rem_fit {t a b : Int} (ht : t ≠ 1) (hb : fitB t b = true) (h0 : b ≠ 0) : fitB t (a.tmod b) = true := by
  obtain ⟨hty, h1, h2⟩ := fit_range ht hb
  have h3 := tmod_abs a b h0
  unfold fitB
  rw [if_neg ht, hty, Bool.true_and, Bool.and_eq_true]
  rcases sz_pos t with e | e <;> rw [e] at h1 h2 ⊢ <;> exact ⟨decide_eq_true (by omega), decide_eq_true (by omega)⟩
theorem div_back {t a b : Int} (h : t ≠ 1) (ha : fitB t a = true) : wrN t (wrN t (wrN t (a.tdiv b) * b) + wrN t (a.tmod b)) = a := by
  rw [wr_mul h, wr_add h, wr_add' h, Int.mul_comm, Int.mul_tdiv_add_tmod, wr_fit ha]
/-! signs, and wider types -/
theorem neg_back {t b : Int} (h : t ≠ 1) (hb : fitB t b = true) : wrN t (-wrN t (-b)) = b := by rw [wr_neg h, Int.neg_neg, wr_fit hb]
theorem sub_neg {t : Int} (h : t ≠ 1) (a b : Int) : wrN t (a - b) = wrN t (a + wrN t (-b)) := by rw [wr_add' h, Int.sub_eq_add_neg]
theorem not_less {t : Int} (h : t ≠ 1) (b : Int) : wrN t (-1 - b) = wrN t (wrN t (-b) - 1) := by
  rw [wr_sub h]; congr 1; omega
theorem wide (n : Int) : wrN 3 (wrN 2 n) = wrN 2 n := by
  obtain ⟨a, b⟩ := wr_range (t := 2) (by decide) n
  refine wr_fit ?_
  unfold fitB
  rw [if_neg (by decide)]
  have e2 : szN 2 = 65536 := rfl
  have e3 : szN 3 = 4294967296 := rfl
  rw [e2] at a b
  rw [e3, decide_eq_true (show (-(4294967296 / 2) : Int) ≤ wrN 2 n by omega), decide_eq_true (show wrN 2 n < 4294967296 / 2 by omega)]; rfl
theorem narrow_mod (w : Int) : (w - wrN 2 w).tmod 65536 = 0 := by
  have h := wr_mod (t := 2) (by decide) w
  have e2 : szN 2 = 65536 := rfl
  rw [e2] at h
  exact Int.tmod_eq_zero_of_dvd (by omega)
/-! what comes out fits -/
theorem flag_fit (b : Bool) : fitB 1 (flagN b) = true := by cases b <;> decide
theorem pure_flag {op a b : Int} (h : 9 ≤ op) : ∃ c, pureN op a b = flagN c := by
  unfold pureN
  rw [if_neg (by omega), if_neg (by omega), if_neg (by omega), if_neg (by omega), if_neg (by omega), if_neg (by omega), if_neg (by omega), if_neg (by omega)]
  repeat' split
  all_goals exact ⟨_, rfl⟩
/-- an operation on two values that fit: no such operation, a division by nought, or what fits the type that comes out -/
theorem two_fits (op t a b : Int) (ha : fitB t a = true) (hb : fitB t b = true) :
    twoN op t a b = (0, 40) ∨ twoN op t a b = (0, 41) ∨ ((twoN op t a b).2 = 0 ∧ (resN op t).2 = 0 ∧ fitB (resN op t).1 (twoN op t a b).1 = true) := by
  cases ho : has2 op t with
  | false => left; unfold twoN; rw [if_pos ho]
  | true =>
    right
    by_cases hz : (op = 4 ∨ op = 5) ∧ b = 0
    · left
      unfold twoN
      rw [if_neg (by rw [ho]; decide), if_neg (by rw [ha, hb]; decide), if_pos hz]
    · right
      rw [two_plain ho ha hb hz]
      have hr : ¬ (has1 op t = false ∧ has2 op t = false) := fun h => by rw [ho] at h; exact absurd h.2 (by decide)
      have ho14 : op ≤ 14 := by
        unfold has2 at ho
        rw [Bool.and_eq_true] at ho
        have h2 := ho.2
        by_cases hc : op ≤ 14
        · exact hc
        · rw [if_neg (by omega), if_neg (by omega), if_neg (by omega)] at h2
          have := of_decide_eq_true h2; omega
      by_cases h9 : 9 ≤ op
      · rw [if_pos h9]
        unfold resN
        rw [if_neg hr, if_pos ⟨h9, ho14⟩]
        obtain ⟨c, hc⟩ := pure_flag (a := a) (b := b) h9
        exact ⟨rfl, rfl, by show fitB 1 (pureN op a b) = true; rw [hc]; exact flag_fit c⟩
      · rw [if_neg h9]
        unfold resN
        rw [if_neg hr, if_neg (by omega)]
        exact ⟨rfl, rfl, fit_wr (fit_ty ha) _⟩
theorem cmp_flags {t a b : Int} (ht : t = 2 ∨ t = 3 ∨ t = 4) (ha : fitB t a = true) (hb : fitB t b = true) :
    twoN 9 t a b = (flagN (decide (a = b)), 0) ∧ twoN 10 t a b = (flagN (decide (a ≠ b)), 0) ∧ twoN 11 t a b = (flagN (decide (a < b)), 0) ∧ twoN 12 t a b = (flagN (decide (a ≤ b)), 0) ∧ twoN 13 t a b = (flagN (decide (b < a)), 0) ∧ twoN 14 t a b = (flagN (decide (b ≤ a)), 0) := by
  have key : ∀ op : Int, 9 ≤ op → op ≤ 14 → twoN op t a b = (pureN op a b, 0) := fun op h1 h2 => by
    have ho : has2 op t = true := by
      unfold has2
      rcases ht with rfl | rfl | rfl
      all_goals
        rw [show tyB _ = true from by decide, Bool.true_and]
        split
        · decide
        · rw [if_neg (by omega), if_neg (by omega)]
          exact decide_eq_true (by omega)
    rw [two_plain ho ha hb (by omega), if_pos h1]
  exact ⟨key 9 (by omega) (by omega), key 10 (by omega) (by omega), key 11 (by omega) (by omega), key 12 (by omega) (by omega), key 13 (by omega) (by omega), key 14 (by omega) (by omega)⟩
/-- the chapter's examples -/
theorem ex_add : twoN 1 2 32767 1 = (-32768, 0) := by decide +kernel
theorem ex_div : twoN 4 2 (-7) 2 = (-3, 0) := by decide +kernel
theorem ex_rem : twoN 5 2 (-7) 2 = (-1, 0) := by decide +kernel
theorem ex_least : twoN 4 2 (-32768) (-1) = (-32768, 0) := by decide +kernel
theorem ex_not : oneN 16 2 5 = (-6, 0) := by decide +kernel
theorem ex_zero : twoN 4 2 5 0 = (0, 41) := by decide +kernel
end Go.Proofs.YtlckedionmgjjaaDoor.Four
namespace Go.Proofs.YtlckedionmgjjaaDoor.Four
open Go.RowKit
theorem hide {p : Prop} (h : p) : Hid p := h
theorem ret_bool {a b : Bool} (h : a = b) : Ending.returned (.bool a) = .returned (.bool b) := by rw [h]
theorem ret_int {k : IntKind} {a b : Int} (h : a = b) : Ending.returned (.int k a) = .returned (.int k b) := by rw [h]
set_option maxRecDepth 100000 in
theorem isType_any (t : Int) (w : World) : Calls Tryd.prog 70 #[.int .i64 t] w fun e w' => e = .returned (.bool (tyB t)) ∧ w' = w := by
  have E := hide (show tyB t = (decide (1 ≤ t) && decide (t ≤ 4)) from rfl)
  by_cases h1 : 1 ≤ t
  · by_cases h2 : t ≤ 4
    · rw [E.out, decide_eq_true h1, decide_eq_true h2]
      clear E
      go_enter Tryd.func70, Tryd.ntmps70
      go_wp2
      go_ret
      exact ⟨rfl, rfl⟩
    · rw [E.out, decide_eq_true h1, decide_eq_false h2]
      clear E
      go_enter Tryd.func70, Tryd.ntmps70
      go_wp2
      go_ret
      exact ⟨rfl, rfl⟩
  · rw [E.out, decide_eq_false h1]
    clear E
    go_enter Tryd.func70, Tryd.ntmps70
    go_wp2
    go_ret
    exact ⟨rfl, rfl⟩
set_option maxRecDepth 100000 in
theorem type_any (t : Int) (w : World) : Calls Tryd.prog 62 #[.int .i64 t] w fun e w' => e = .returned (.bool (tyB t)) ∧ w' = w := by
  have E := hide (show tyB t = (decide (1 ≤ t) && decide (t ≤ 4)) from rfl)
  by_cases h1 : 1 ≤ t
  · by_cases h2 : t ≤ 4
    · rw [E.out, decide_eq_true h1, decide_eq_true h2]
      clear E
      go_enter Tryd.func62, Tryd.ntmps62
      go_wp2
      go_ret
      exact ⟨rfl, rfl⟩
    · rw [E.out, decide_eq_true h1, decide_eq_false h2]
      clear E
      go_enter Tryd.func62, Tryd.ntmps62
      go_wp2
      go_ret
      exact ⟨rfl, rfl⟩
  · rw [E.out, decide_eq_false h1]
    clear E
    go_enter Tryd.func62, Tryd.ntmps62
    go_wp2
    go_ret
    exact ⟨rfl, rfl⟩
set_option maxRecDepth 100000 in
theorem truth_any (b : Bool) (w : World) : Calls Tryd.prog 94 #[.bool b] w fun e w' => e = .returned (.int .i64 (flagN b)) ∧ w' = w := by
  cases b
  all_goals
    go_enter Tryd.func94, Tryd.ntmps94
    go_wp2
    go_ret
    exact ⟨rfl, rfl⟩
set_option maxRecDepth 100000 in
theorem size_any (t : Int) (w : World) : Calls Tryd.prog 63 #[.int .i64 t] w fun e w' => e = .returned (.int .i64 (szN t)) ∧ w' = w := by
  by_cases h : t = 2
  · subst h
    go_enter Tryd.func63, Tryd.ntmps63
    go_wp2
    go_ret
    exact ⟨rfl, rfl⟩
  · have E := hide (show szN t = 4294967296 by unfold szN; rw [if_neg h])
    go_enter Tryd.func63, Tryd.ntmps63
    go_wp2
    go_ret
    exact ⟨by rw [E.out]; rfl, rfl⟩
end Go.Proofs.YtlckedionmgjjaaDoor.Four
