/- N4 | FpA -/
import Derived.WalkKit
import Derived.Test.YtldjiieckddhkaaGreatDoorMg4
namespace Go.Proofs.YtldjiieckddhkaaGreatDoor.Four
open Go.RowKit
def tyB (t : Int) : Bool := decide (1 ≤ t) && decide (t ≤ 4)
def szN (t : Int) : Int := if t = 2 then 65536 else 4294967296
def fitB (t n : Int) : Bool := if t = 1 then decide (n = 0) || decide (n = 1) else tyB t && (decide (-(szN t / 2) ≤ n) && decide (n < szN t / 2))
def wrN (t n : Int) : Int := if t = 1 then n % 2 else if szN t / 2 ≤ n % szN t then n % szN t - szN t else n % szN t
def has1 (op t : Int) : Bool := tyB t && ((decide (op = 15) && decide (t ≠ 1)) || (decide (op = 16) && decide (t ≠ 4)))
def has2 (op t : Int) : Bool := tyB t &&
  (if op = 1 ∨ op = 2 ∨ (11 ≤ op ∧ op ≤ 14) then decide (t ≠ 1) else if 3 ≤ op ∧ op ≤ 5 then decide (t = 2 ∨ t = 3) else if 6 ≤ op ∧ op ≤ 8 then decide (t ≠ 4) else decide (op = 9 ∨ op = 10))
def flagN (b : Bool) : Int := if b then 1 else 0
def pureN (op a b : Int) : Int :=
  if op = 1 then a + b else if op = 2 then a - b else if op = 3 then a * b else if op = 4 then a.tdiv b else if op = 5 then a.tmod b
  else if op = 6 then bits .and .i64 a b else if op = 7 then bits .or .i64 a b else if op = 8 then bits .xor .i64 a b
  else if op = 9 then flagN (decide (a = b)) else if op = 10 then flagN (decide (a ≠ b)) else if op = 11 then flagN (decide (a < b)) else if op = 12 then flagN (decide (a ≤ b)) else if op = 13 then flagN (decide (b < a)) else flagN (decide (b ≤ a))
def twoN (op t a b : Int) : Int × Int :=
  if has2 op t = false then (0, 40) else if fitB t a = false ∨ fitB t b = false then (0, 1) else if (op = 4 ∨ op = 5) ∧ b = 0 then (0, 41) else if 9 ≤ op then (pureN op a b, 0) else (wrN t (pureN op a b), 0)
def oneN (op t a : Int) : Int × Int :=
  if has1 op t = false then (0, 40) else if fitB t a = false then (0, 1) else if op = 15 then (wrN t (-a), 0) else if t = 1 then (1 - a, 0) else (wrN t (-1 - a), 0)
def resN (op t : Int) : Int × Int := if has1 op t = false ∧ has2 op t = false then (0, 40) else if 9 ≤ op ∧ op ≤ 14 then (1, 0) else (t, 0)
def wrapN (t n : Int) : Int × Int := if tyB t = false then (0, 40) else (wrN t n, 0)
def convN (f t n : Int) : Int × Int := if tyB f = false ∨ tyB t = false ∨ (decide (f = 1) != decide (t = 1)) = true then (0, 40) else if fitB f n = false then (0, 1) else (wrN t n, 0)
theorem sz_pos (t : Int) : szN t = 65536 ∨ szN t = 4294967296 := by unfold szN; split <;> simp
theorem wr_mod {t : Int} (h : t ≠ 1) (n : Int) : wrN t n % szN t = n % szN t := by
  unfold wrN
  rw [if_neg h]
  rcases sz_pos t with e | e <;> rw [e] <;> split <;> omega
theorem wr_range {t : Int} (h : t ≠ 1) (n : Int) : -(szN t / 2) ≤ wrN t n ∧ wrN t n < szN t / 2 := by
  unfold wrN
  rw [if_neg h]
  rcases sz_pos t with e | e <;> rw [e] <;> split <;> omega
theorem wr_congr {t x y : Int} (h : t ≠ 1) (e : x % szN t = y % szN t) : wrN t x = wrN t y := by
  unfold wrN; rw [if_neg h, if_neg h, e]
theorem wr_one (n : Int) : wrN 1 n = n % 2 := by unfold wrN; rw [if_pos rfl]
theorem fit_wr {t : Int} (h : tyB t = true) (n : Int) : fitB t (wrN t n) = true := by
  by_cases h1 : t = 1
  · subst h1
    rw [wr_one]
    unfold fitB
    rw [if_pos rfl]
    simp; omega
  · obtain ⟨a, b⟩ := wr_range h1 n
    unfold fitB
    rw [if_neg h1, h, decide_eq_true a, decide_eq_true b]; rfl
theorem fit_range {t n : Int} (h1 : t ≠ 1) (h : fitB t n = true) : tyB t = true ∧ -(szN t / 2) ≤ n ∧ n < szN t / 2 := by
  unfold fitB at h
  rw [if_neg h1, Bool.and_eq_true, Bool.and_eq_true] at h
  exact ⟨h.1, of_decide_eq_true h.2.1, of_decide_eq_true h.2.2⟩
theorem fit_one {n : Int} (h : fitB 1 n = true) : n = 0 ∨ n = 1 := by
  unfold fitB at h
  rw [if_pos rfl, Bool.or_eq_true] at h
  rcases h with h | h
  · exact .inl (of_decide_eq_true h)
  · exact .inr (of_decide_eq_true h)
theorem fit_ty {t n : Int} (h : fitB t n = true) : tyB t = true := by
  by_cases h1 : t = 1
  · subst h1; decide
  · exact (fit_range h1 h).1
theorem wr_fit {t n : Int} (h : fitB t n = true) : wrN t n = n := by
  by_cases h1 : t = 1
  · subst h1
    rw [wr_one]
    rcases fit_one h with e | e <;> omega
  · obtain ⟨_, a, b⟩ := fit_range h1 h
    unfold wrN
    rw [if_neg h1]
    rcases sz_pos t with e | e <;> rw [e] at a b ⊢ <;> split <;> omega
theorem fit_iff {t : Int} (h : tyB t = true) (n : Int) : fitB t n = decide (wrN t n = n) := by
  cases hf : fitB t n with
  | true => rw [wr_fit hf, decide_eq_true rfl]
  | false =>
    symm
    refine decide_eq_false fun e => ?_
    have := fit_wr h n
    rw [e, hf] at this
    exact absurd this (by decide)
theorem wr_wr {t : Int} (h : tyB t = true) (n : Int) : wrN t (wrN t n) = wrN t n := wr_fit (fit_wr h n)
theorem wr_add {t : Int} (h : t ≠ 1) (x y : Int) : wrN t (wrN t x + y) = wrN t (x + y) := wr_congr h (by
  rw [Int.add_emod, wr_mod h, ← Int.add_emod])
theorem wr_add' {t : Int} (h : t ≠ 1) (x y : Int) : wrN t (x + wrN t y) = wrN t (x + y) := by rw [Int.add_comm, wr_add h, Int.add_comm]
theorem wr_mul {t : Int} (h : t ≠ 1) (x y : Int) : wrN t (wrN t x * y) = wrN t (x * y) := wr_congr h (by
  rw [Int.mul_emod, wr_mod h, ← Int.mul_emod])
theorem wr_mul' {t : Int} (h : t ≠ 1) (x y : Int) : wrN t (x * wrN t y) = wrN t (x * y) := by rw [Int.mul_comm, wr_mul h, Int.mul_comm]
theorem wr_sub {t : Int} (h : t ≠ 1) (x y : Int) : wrN t (wrN t x - y) = wrN t (x - y) := by rw [Int.sub_eq_add_neg, wr_add h, ← Int.sub_eq_add_neg]
theorem wr_neg {t : Int} (h : t ≠ 1) (x : Int) : wrN t (-wrN t x) = wrN t (-x) := by
  have := wr_mul' h (-1) x
  rw [Int.neg_one_mul, Int.neg_one_mul] at this; exact this
theorem whole_ty {t : Int} (h : t = 2 ∨ t = 3) : tyB t = true ∧ t ≠ 1 := by rcases h with rfl | rfl <;> exact ⟨by decide, by decide⟩
theorem two_plain {op t a b : Int} (ho : has2 op t = true) (ha : fitB t a = true) (hb : fitB t b = true) (hz : ¬ ((op = 4 ∨ op = 5) ∧ b = 0)) : twoN op t a b = if 9 ≤ op then (pureN op a b, 0) else (wrN t (pureN op a b), 0) := by
  unfold twoN
  rw [if_neg (by rw [ho]; decide), if_neg (by rw [ha, hb]; decide), if_neg hz]
theorem has2_whole {op t : Int} (ht : t = 2 ∨ t = 3) (h : 1 ≤ op ∧ op ≤ 14) : has2 op t = true := by
  unfold has2
  rw [(whole_ty ht).1, Bool.true_and]
  rcases ht with rfl | rfl
  all_goals
    split
    · decide
    · split
      · decide
      · split
        · decide
        · exact decide_eq_true (by omega)
theorem two_add {t a b : Int} (ht : t = 2 ∨ t = 3) (ha : fitB t a = true) (hb : fitB t b = true) : twoN 1 t a b = (wrN t (a + b), 0) := by
  rw [two_plain (has2_whole ht (by decide)) ha hb (by omega)]; rfl
theorem two_sub {t a b : Int} (ht : t = 2 ∨ t = 3) (ha : fitB t a = true) (hb : fitB t b = true) : twoN 2 t a b = (wrN t (a - b), 0) := by
  rw [two_plain (has2_whole ht (by decide)) ha hb (by omega)]; rfl
theorem two_mul {t a b : Int} (ht : t = 2 ∨ t = 3) (ha : fitB t a = true) (hb : fitB t b = true) : twoN 3 t a b = (wrN t (a * b), 0) := by
  rw [two_plain (has2_whole ht (by decide)) ha hb (by omega)]; rfl
theorem two_div {t a b : Int} (ht : t = 2 ∨ t = 3) (ha : fitB t a = true) (hb : fitB t b = true) (h0 : b ≠ 0) : twoN 4 t a b = (wrN t (a.tdiv b), 0) := by
  rw [two_plain (has2_whole ht (by decide)) ha hb (by omega)]; rfl
theorem two_rem {t a b : Int} (ht : t = 2 ∨ t = 3) (ha : fitB t a = true) (hb : fitB t b = true) (h0 : b ≠ 0) : twoN 5 t a b = (wrN t (a.tmod b), 0) := by
  rw [two_plain (has2_whole ht (by decide)) ha hb (by omega)]; rfl
theorem two_xor {t a b : Int} (ht : t = 2 ∨ t = 3) (ha : fitB t a = true) (hb : fitB t b = true) : twoN 8 t a b = (wrN t (bits .xor .i64 a b), 0) := by
  rw [two_plain (has2_whole ht (by decide)) ha hb (by omega)]; rfl
theorem two_zero {t a : Int} (ht : t = 2 ∨ t = 3) (ha : fitB t a = true) (op : Int) (ho : op = 4 ∨ op = 5) : twoN op t a 0 = (0, 41) := by
  have hb : fitB t 0 = true := by rcases ht with rfl | rfl <;> decide
  unfold twoN
  rw [if_neg (by rw [has2_whole ht (by omega)]; decide), if_neg (by rw [ha, hb]; decide), if_pos ⟨ho, rfl⟩]
theorem ring_assoc_add {t : Int} (h : t ≠ 1) (a b c : Int) : wrN t (wrN t (a + b) + c) = wrN t (a + wrN t (b + c)) := by rw [wr_add h, wr_add' h, Int.add_assoc]
theorem ring_assoc_mul {t : Int} (h : t ≠ 1) (a b c : Int) : wrN t (wrN t (a * b) * c) = wrN t (a * wrN t (b * c)) := by rw [wr_mul h, wr_mul' h, Int.mul_assoc]
theorem ring_over {t : Int} (h : t ≠ 1) (a b c : Int) : wrN t (a * wrN t (b + c)) = wrN t (wrN t (a * b) + wrN t (a * c)) := by rw [wr_mul' h, wr_add h, wr_add' h, Int.mul_add]
theorem ring_back {t a : Int} (h : t ≠ 1) (ha : fitB t a = true) (b : Int) : wrN t (wrN t (a + b) - b) = a := by rw [wr_sub h, Int.add_sub_cancel, wr_fit ha]
theorem ofInt_mod (x : Int) : (BitVec.ofInt 64 x).toNat = (x % 18446744073709551616).toNat := by rw [BitVec.toNat_ofInt]; rfl
theorem i64_mod (n m : Int) (hm : m = 65536 ∨ m = 4294967296) : IntKind.i64.wrap n % m = n % m := by
  simp [IntKind.wrap, IntKind.bits, IntKind.signed]
  rcases hm with rfl | rfl <;> omega
theorem low_xor (x y m : Int) (k : Nat) (hk : m = ((2 ^ k : Nat) : Int)) (hm : m = 65536 ∨ m = 4294967296) : bits .xor .i64 x y % m = (((x % m).toNat ^^^ (y % m).toNat : Nat) : Int) := by
  have low : ∀ z : Int, (z % 18446744073709551616).toNat % 2 ^ k = (z % m).toNat := fun z => by
    have h : (2 ^ k : Nat) = m.toNat := by omega
    rw [h]
    rcases hm with rfl | rfl
    · show _ % 65536 = _; omega
    · show _ % 4294967296 = _; omega
  show IntKind.i64.wrap ((BitVec.ofInt 64 x ^^^ BitVec.ofInt 64 y).toNat : Int) % m = _
  rw [i64_mod _ _ hm, BitVec.toNat_xor, ofInt_mod, ofInt_mod, hk, ← Int.natCast_emod, Nat.xor_mod_two_pow, low, low, ← hk]
theorem sz_pow (t : Int) : ∃ k : Nat, szN t = ((2 ^ k : Nat) : Int) := by
  rcases sz_pos t with e | e
  · exact ⟨16, by rw [e]; rfl⟩
  · exact ⟨32, by rw [e]; rfl⟩
theorem xor_back {t a : Int} (h : t ≠ 1) (ha : fitB t a = true) (b : Int) : wrN t (bits .xor .i64 (wrN t (bits .xor .i64 a b)) b) = a := by
  obtain ⟨k, hk⟩ := sz_pow t
  have e : bits .xor .i64 (wrN t (bits .xor .i64 a b)) b % szN t = a % szN t := by
    rw [low_xor _ _ _ k hk (sz_pos t), wr_mod h, low_xor _ _ _ k hk (sz_pos t), Int.toNat_natCast, Nat.xor_assoc, Nat.xor_self, Nat.xor_zero]
    have := Int.emod_nonneg a (show szN t ≠ 0 by rcases sz_pos t with e | e <;> rw [e] <;> decide)
    omega
  rw [wr_congr h e, wr_fit ha]
theorem tmod_abs (a b : Int) (h0 : b ≠ 0) : max (a.tmod b) (-(a.tmod b)) < max b (-b) := by
  have h1 := Int.natAbs_tmod a b
  have h2 : a.natAbs % b.natAbs < b.natAbs := Nat.mod_lt _ (by omega)
  omega
theorem tmod_sign (a b : Int) (h : a.tmod b ≠ 0) : (a.tmod b < 0) ↔ (a < 0) := by
  constructor
  · intro h1
    rcases Int.lt_or_le a 0 with h2 | h2
    · exact h2
    · have := Int.tmod_nonneg b h2; omega
  · intro h1
    have : (-a).tmod b = -(a.tmod b) := Int.neg_tmod a b
    have h3 := Int.tmod_nonneg b (show 0 ≤ -a by omega)
    omega
theorem rem_fit {t a b : Int} (ht : t ≠ 1) (hb : fitB t b = true) (h0 : b ≠ 0) : fitB t (a.tmod b) = true := by
  obtain ⟨hty, h1, h2⟩ := fit_range ht hb
  have h3 := tmod_abs a b h0
  unfold fitB
  rw [if_neg ht, hty, Bool.true_and, Bool.and_eq_true]
  rcases sz_pos t with e | e <;> rw [e] at h1 h2 ⊢ <;> exact ⟨decide_eq_true (by omega), decide_eq_true (by omega)⟩
theorem div_back {t a b : Int} (h : t ≠ 1) (ha : fitB t a = true) : wrN t (wrN t (wrN t (a.tdiv b) * b) + wrN t (a.tmod b)) = a := by
  rw [wr_mul h, wr_add h, wr_add' h, Int.mul_comm, Int.mul_tdiv_add_tmod, wr_fit ha]
theorem neg_back {t b : Int} (h : t ≠ 1) (hb : fitB t b = true) : wrN t (-wrN t (-b)) = b := by rw [wr_neg h, Int.neg_neg, wr_fit hb]
theorem sub_neg {t : Int} (h : t ≠ 1) (a b : Int) : wrN t (a - b) = wrN t (a + wrN t (-b)) := by rw [wr_add' h, Int.sub_eq_add_neg]
theorem not_less {t : Int} (h : t ≠ 1) (b : Int) : wrN t (-1 - b) = wrN t (wrN t (-b) - 1) := by
  rw [wr_sub h]; congr 1; omega
theorem wide (n : Int) : wrN 3 (wrN 2 n) = wrN 2 n := by
  obtain ⟨a, b⟩ := wr_range (t := 2) (by decide) n
  refine wr_fit ?_
  unfold fitB
  rw [if_neg (by decide)]
  have e2 : szN 2 = 65536 := rfl
  have e3 : szN 3 = 4294967296 := rfl
  rw [e2] at a b
  rw [e3, decide_eq_true (show (-(4294967296 / 2) : Int) ≤ wrN 2 n by omega), decide_eq_true (show wrN 2 n < 4294967296 / 2 by omega)]; rfl
theorem narrow_mod (w : Int) : (w - wrN 2 w).tmod 65536 = 0 := by
  have h := wr_mod (t := 2) (by decide) w
  have e2 : szN 2 = 65536 := rfl
  rw [e2] at h
  exact Int.tmod_eq_zero_of_dvd (by omega)
theorem flag_fit (b : Bool) : fitB 1 (flagN b) = true := by cases b <;> decide
theorem pure_flag {op a b : Int} (h : 9 ≤ op) : ∃ c, pureN op a b = flagN c := by
  unfold pureN
  rw [if_neg (by omega), if_neg (by omega), if_neg (by omega), if_neg (by omega), if_neg (by omega), if_neg (by omega), if_neg (by omega), if_neg (by omega)]
  repeat' split
  all_goals exact ⟨_, rfl⟩
theorem two_fits (op t a b : Int) (ha : fitB t a = true) (hb : fitB t b = true) :
    twoN op t a b = (0, 40) ∨ twoN op t a b = (0, 41) ∨ ((twoN op t a b).2 = 0 ∧ (resN op t).2 = 0 ∧ fitB (resN op t).1 (twoN op t a b).1 = true) := by
  cases ho : has2 op t with
  | false => left; unfold twoN; rw [if_pos ho]
  | true =>
    right
    by_cases hz : (op = 4 ∨ op = 5) ∧ b = 0
    · left
      unfold twoN
      rw [if_neg (by rw [ho]; decide), if_neg (by rw [ha, hb]; decide), if_pos hz]
    · right
      rw [two_plain ho ha hb hz]
      have hr : ¬ (has1 op t = false ∧ has2 op t = false) := fun h => by rw [ho] at h; exact absurd h.2 (by decide)
      have ho14 : op ≤ 14 := by
        unfold has2 at ho
        rw [Bool.and_eq_true] at ho
        have h2 := ho.2
        by_cases hc : op ≤ 14
        · exact hc
        · rw [if_neg (by omega), if_neg (by omega), if_neg (by omega)] at h2
          have := of_decide_eq_true h2; omega
      by_cases h9 : 9 ≤ op
      · rw [if_pos h9]
        unfold resN
        rw [if_neg hr, if_pos ⟨h9, ho14⟩]
        obtain ⟨c, hc⟩ := pure_flag (a := a) (b := b) h9
        exact ⟨rfl, rfl, by show fitB 1 (pureN op a b) = true; rw [hc]; exact flag_fit c⟩
      · rw [if_neg h9]
        unfold resN
        rw [if_neg hr, if_neg (by omega)]
        exact ⟨rfl, rfl, fit_wr (fit_ty ha) _⟩
theorem cmp_flags {t a b : Int} (ht : t = 2 ∨ t = 3 ∨ t = 4) (ha : fitB t a = true) (hb : fitB t b = true) :
    twoN 9 t a b = (flagN (decide (a = b)), 0) ∧ twoN 10 t a b = (flagN (decide (a ≠ b)), 0) ∧ twoN 11 t a b = (flagN (decide (a < b)), 0) ∧ twoN 12 t a b = (flagN (decide (a ≤ b)), 0) ∧ twoN 13 t a b = (flagN (decide (b < a)), 0) ∧ twoN 14 t a b = (flagN (decide (b ≤ a)), 0) := by
  have key : ∀ op : Int, 9 ≤ op → op ≤ 14 → twoN op t a b = (pureN op a b, 0) := fun op h1 h2 => by
    have ho : has2 op t = true := by
      unfold has2
      rcases ht with rfl | rfl | rfl
      all_goals
        rw [show tyB _ = true from by decide, Bool.true_and]
        split
        · decide
        · rw [if_neg (by omega), if_neg (by omega)]
          exact decide_eq_true (by omega)
    rw [two_plain ho ha hb (by omega), if_pos h1]
  exact ⟨key 9 (by omega) (by omega), key 10 (by omega) (by omega), key 11 (by omega) (by omega), key 12 (by omega) (by omega), key 13 (by omega) (by omega), key 14 (by omega) (by omega)⟩
theorem ex_add : twoN 1 2 32767 1 = (-32768, 0) := by decide +kernel
theorem ex_div : twoN 4 2 (-7) 2 = (-3, 0) := by decide +kernel
theorem ex_rem : twoN 5 2 (-7) 2 = (-1, 0) := by decide +kernel
theorem ex_least : twoN 4 2 (-32768) (-1) = (-32768, 0) := by decide +kernel
theorem ex_not : oneN 16 2 5 = (-6, 0) := by decide +kernel
theorem ex_zero : twoN 4 2 5 0 = (0, 41) := by decide +kernel
end Go.Proofs.YtldjiieckddhkaaGreatDoor.Four
namespace Go.Proofs.YtldjiieckddhkaaGreatDoor
section
variable {V : Type}
def mStep (f : Pt → List V → Except Int V) (p : Pt) (st : List V) : Except Int (List V) :=
  match f p (st.drop (st.length - takes p)) with
  | .error e => Except.error e
  | .ok v => .ok (st.take (st.length - takes p) ++ [v])
def mRun (f : Pt → List V → Except Int V) : List Pt → List V → Except Int (List V)
  | [], st => .ok st
  | p :: x, st => match mStep f p st with
    | .error e => Except.error e
    | .ok st' => mRun f x st'
def evT (f : Pt → List V → Except Int V) : Ex → Except Int V
  | .leaf p => f p []
  | .one p e => match evT f e with
    | .error er => Except.error er
    | .ok v => f p [v]
  | .two p a b => match evT f a with
    | .error er => Except.error er
    | .ok va => match evT f b with
      | .error er => Except.error er
      | .ok vb => f p [va, vb]
theorem evT_one (f : Pt → List V → Except Int V) (p : Pt) (e : Ex) : evT f (.one p e) = match evT f e with
    | .error er => Except.error er
    | .ok v => f p [v] := by rw [evT]
theorem evT_two (f : Pt → List V → Except Int V) (p : Pt) (a b : Ex) : evT f (.two p a b) = match evT f a with
    | .error er => Except.error er
    | .ok va => match evT f b with
      | .error er => Except.error er
      | .ok vb => f p [va, vb] := by rw [evT]
theorem mStep_on (f : Pt → List V → Except Int V) (p : Pt) (st on : List V) (h : takes p = on.length) : mStep f p (st ++ on) = match f p on with
    | .error e => Except.error e
    | .ok v => .ok (st ++ [v]) := by
  unfold mStep
  have e : (st ++ on).length - takes p = st.length := by rw [h, List.length_append]; omega
  rw [e, List.drop_left' rfl, List.take_left' rfl]
theorem run_flat (f : Pt → List V → Except Int V) : ∀ {e : Ex}, well e → ∀ (r : List Pt) (st : List V), mRun f (flat e ++ r) st = match evT f e with
    | .error er => Except.error er
    | .ok v => mRun f r (st ++ [v])
  | .leaf p, h, r, st => by
    show (match mStep f p st with | .error e => Except.error e | .ok st' => mRun f r st') = _
    have := mStep_on f p st [] h.1
    rw [List.append_nil] at this
    rw [this]
    show _ = (match f p [] with | .error er => Except.error er | .ok v => mRun f r (st ++ [v]))
    cases f p [] <;> rfl
  | .one p e, h, r, st => by
    show mRun f ((flat e ++ [p]) ++ r) st = _
    rw [List.append_assoc, run_flat f h.2.2]
    show _ = (match (match evT f e with | .error er => Except.error er | .ok v => f p [v]) with | .error er => Except.error er | .ok v => mRun f r (st ++ [v]))
    cases evT f e with
    | error er => rfl
    | ok v =>
      show (match mStep f p (st ++ [v]) with | .error e => Except.error e | .ok st' => mRun f r st') = _
      rw [mStep_on f p st [v] h.1]
      show _ = (match f p [v] with | .error er => Except.error er | .ok v => mRun f r (st ++ [v]))
      cases f p [v] <;> rfl
  | .two p a b, h, r, st => by
    show mRun f ((flat a ++ (flat b ++ [p])) ++ r) st = _
    rw [List.append_assoc, run_flat f h.2.2.1]
    show _ = (match (match evT f a with | .error er => Except.error er | .ok va => match evT f b with | .error er => Except.error er | .ok vb => f p [va, vb]) with | .error er => Except.error er | .ok v => mRun f r (st ++ [v]))
    cases evT f a with
    | error er => rfl
    | ok va =>
      show mRun f ((flat b ++ [p]) ++ r) (st ++ [va]) = _
      rw [List.append_assoc, run_flat f h.2.2.2]
      show _ = (match (match evT f b with | .error er => Except.error er | .ok vb => f p [va, vb]) with | .error er => Except.error er | .ok v => mRun f r (st ++ [v]))
      cases evT f b with
      | error er => rfl
      | ok vb =>
        show (match mStep f p (st ++ [va] ++ [vb]) with | .error e => Except.error e | .ok st' => mRun f r st') = _
        rw [List.append_assoc, List.singleton_append, mStep_on f p st [va, vb] h.1]
        show _ = (match f p [va, vb] with | .error er => Except.error er | .ok v => mRun f r (st ++ [v]))
        cases f p [va, vb] <;> rfl
theorem run_tree (f : Pt → List V → Except Int V) {e : Ex} (h : well e) : mRun f (flat e) [] = match evT f e with
    | .error er => Except.error er
    | .ok v => .ok [v] := by
  have := run_flat f h [] []
  rw [List.append_nil] at this
  rw [this]
  cases evT f e <;> rfl
def Wf : List Pt → Nat → Prop
  | [], _ => True
  | p :: x, n => takes p ≤ n ∧ Wf x (n - takes p + 1)
theorem wf_flat : ∀ {e : Ex}, well e → ∀ (r : List Pt) (n : Nat), Wf (flat e ++ r) n ↔ Wf r (n + 1)
  | .leaf p, h, r, n => by
    show (takes p ≤ n ∧ Wf r (n - takes p + 1)) ↔ _
    rw [h.1]; simp
  | .one p e, h, r, n => by
    show Wf ((flat e ++ [p]) ++ r) n ↔ _
    rw [List.append_assoc, wf_flat h.2.2]
    show (takes p ≤ n + 1 ∧ Wf r (n + 1 - takes p + 1)) ↔ _
    rw [h.1]; simp
  | .two p a b, h, r, n => by
    show Wf ((flat a ++ (flat b ++ [p])) ++ r) n ↔ _
    rw [List.append_assoc, wf_flat h.2.2.1, List.append_assoc, wf_flat h.2.2.2]
    show (takes p ≤ n + 1 + 1 ∧ Wf r (n + 1 + 1 - takes p + 1)) ↔ _
    rw [h.1]; simp
theorem wf_tree {e : Ex} (h : well e) : Wf (flat e) 0 := by
  have := (wf_flat h [] 0).2 trivial
  rwa [List.append_nil] at this
theorem step_len {f : Pt → List V → Except Int V} {p : Pt} {st st' : List V} (h : mStep f p st = .ok st') (hl : takes p ≤ st.length) : st'.length = st.length - takes p + 1 := by
  unfold mStep at h
  split at h
  · exact absurd h (by simp)
  · rw [← Except.ok.inj h, List.length_append, List.length_take]
    show min _ _ + 1 = _
    omega
theorem run_snoc (f : Pt → List V → Except Int V) : ∀ (x : List Pt) (p : Pt) (st : List V), mRun f (x ++ [p]) st = match mRun f x st with
    | .error e => Except.error e
    | .ok st' => mStep f p st'
  | [], p, st => by
    show (match mStep f p st with | .error e => Except.error e | .ok st' => .ok st') = mStep f p st
    cases mStep f p st <;> rfl
  | q :: x, p, st => by
    show (match mStep f q st with | .error e => Except.error e | .ok st' => mRun f (x ++ [p]) st') = (match (match mStep f q st with | .error e => Except.error e | .ok st' => mRun f x st') with | .error e => Except.error e | .ok st' => mStep f p st')
    cases mStep f q st with
    | error e => rfl
    | ok st' => exact run_snoc f x p st'
theorem run_app (f : Pt → List V → Except Int V) : ∀ (x y : List Pt) (st : List V), mRun f (x ++ y) st = match mRun f x st with
    | .error e => Except.error e
    | .ok st' => mRun f y st'
  | [], y, st => rfl
  | q :: x, y, st => by
    show (match mStep f q st with | .error e => Except.error e | .ok st' => mRun f (x ++ y) st') = (match (match mStep f q st with | .error e => Except.error e | .ok st' => mRun f x st') with | .error e => Except.error e | .ok st' => mRun f y st')
    cases mStep f q st with
    | error e => rfl
    | ok st' => exact run_app f x y st'
theorem wf_at {f : Pt → List V → Except Int V} : ∀ {x : List Pt} {st st' : List V} {i : Nat} {p : Pt}, Wf x st.length → mRun f (x.take i) st = .ok st' → x[i]? = some p → takes p ≤ st'.length
  | [], st, st', i, p, _, _, hp => by simp at hp
  | q :: x, st, st', 0, p, hw, hr, hp => by
    obtain rfl := Except.ok.inj (show Except.ok (ε := Int) st = .ok st' from hr)
    obtain rfl := Option.some.inj (hp : some q = some p)
    exact hw.1
  | q :: x, st, st', i + 1, p, hw, hr, hp => by
    have hr' : (match mStep f q st with | .error e => Except.error e | .ok s1 => mRun f (x.take i) s1) = .ok st' := hr
    cases hs : mStep f q st with
    | error e => rw [hs] at hr'; exact absurd hr' (by simp)
    | ok s1 =>
      rw [hs] at hr'
      have hl := step_len hs hw.1
      exact wf_at (by rw [hl]; exact hw.2) hr' hp
end
structure Kd where
  typ : Int
  lo : Int
  hi : Int
deriving DecidableEq
def kT (t : Int) : Kd := ⟨t, 0, 0⟩
def kFits (k : Kd) (t : Int) : Int :=
  if k.typ ≠ 0 ∧ k = kT t then 0 else if k.typ ≠ 0 ∨ (t ≠ 2 ∧ t ≠ 3) then 40 else if fit6 t k.lo = false ∨ fit6 t k.hi = false then 1 else 0
def kAmong (k : Kd) (ts : List Int) : Int := if ts.any (fun t => decide (k = kT t)) then 0 else kFits k 3
def kWith (a b : Kd) : Kd := ⟨0, min a.lo b.lo, max a.hi b.hi⟩
def tyOr (k : Kd) (t : Int) : Int := if k.typ = 0 then t else k.typ
def opK (op : Int) (l r : Kd) : Except Int Kd :=
  if (Four.resN op (tyOr l (tyOr r 3))).2 ≠ 0 then .error (Four.resN op (tyOr l (tyOr r 3))).2
  else if l.typ = 0 ∧ r.typ = 0 ∧ (Four.resN op (tyOr l (tyOr r 3))).1 = tyOr l (tyOr r 3) then .ok (kWith l r)
  else if kFits l (tyOr l (tyOr r 3)) ≠ 0 then .error (kFits l (tyOr l (tyOr r 3)))
  else if kFits r (tyOr l (tyOr r 3)) ≠ 0 then .error (kFits r (tyOr l (tyOr r 3)))
  else .ok (kT (Four.resN op (tyOr l (tyOr r 3))).1)
structure Vr where
  name : Bs
  ty : Int
  len : Int
  init : Int
  dir : Int
def shV (v : Vr) : Bool × Bool := (decide (0 < v.len), decide (100 < v.ty))
def findV : List Vr → Bs → Bool × Bool → Except Int Vr
  | [], _, _ => Except.error 90
  | v :: r, s, a => if v.name = s then (if shV v = a then .ok v else .error 91) else findV r s a
def fldR (k : Int) : List (Bs × Int × Bool) :=
  if k = 1 ∨ k = 2 ∨ k = 3 then [([73, 78], 1, true), ([80, 84], 4, true), ([81], 1, false), ([69, 84], 4, false), ([83, 84, 65, 82, 84], 4, false), ([82, 85, 78], 1, false)]
  else if k = 4 then [([67, 85], 1, true), ([82], 1, true), ([80, 86], 2, true), ([81], 1, false), ([67, 86], 2, false), ([77], 1, false)]
  else if k = 5 then [([67, 68], 1, true), ([76, 68], 1, true), ([80, 86], 2, true), ([81], 1, false), ([67, 86], 2, false), ([77], 1, false)]
  else if k = 6 ∨ k = 7 then [([67, 76, 75], 1, true), ([81], 1, false), ([77], 1, false)]
  else if k = 8 then [([83, 49], 1, true), ([82], 1, true), ([81, 49], 1, false)]
  else if k = 9 then [([83], 1, true), ([82, 49], 1, true), ([81, 49], 1, false)]
  else if k = 10 then [([65], 1, true), ([66], 1, true), ([82], 1, true), ([67, 86], 3, false), ([69, 82, 82], 1, false), ([76, 65, 83, 84], 2, false)]
  else []
def fldV (v : Vr) (f : Bs) : Option (Bs × Int × Bool) := (fldR (v.ty - 100)).find? fun r => r.1 == f
def partK (vs : List Vr) (p : Pt) (on : List Kd) : Except Int Kd :=
  if p.kind = 1 then .ok (if p.t = 0 then ⟨0, p.n, p.n⟩ else kT p.t)
  else if p.kind = 2 then (match findV vs p.s (false, false) with
    | .error e => Except.error e
    | .ok v => .ok (kT v.ty))
  else if p.kind = 3 then (match findV vs p.s (true, false) with
    | .error e => Except.error e
    | .ok v => if kAmong (on.headD (kT 0)) [2] ≠ 0 then .error (kAmong (on.headD (kT 0)) [2]) else .ok (kT v.ty))
  else if p.kind = 4 then (match findV vs p.s (false, true) with
    | .error e => Except.error e
    | .ok v => match fldV v p.f with
      | none => Except.error 91
      | some r => .ok (kT r.2.1))
  else if p.kind = 6 then (if kAmong (on.headD (kT 0)) [2, 4] ≠ 0 then .error (kAmong (on.headD (kT 0)) [2, 4]) else .ok (kT p.t))
  else opK p.n (on.headD (kT 0)) (on.getLastD (kT 0))
def kindP (vs : List Vr) (x : List Pt) : Except Int Kd :=
  match mRun (partK vs) x [] with
  | .error e => Except.error e
  | .ok st => if (st.headD (kT 0)).typ = 0 ∧ kFits (st.headD (kT 0)) 3 ≠ 0 then .error 1 else .ok (st.headD (kT 0))
def tyW (t : Int) : Bool := (decide (1 ≤ t) && decide (t ≤ 4)) || (decide (101 ≤ t) && decide (t ≤ 110))
def single (v : Vr) : Bool := decide (v.len = 0) && fit6 v.ty 0
def varB (v : Vr) : Bool :=
  nameB v.name && (tyW v.ty && ((decide (0 ≤ v.dir) && decide (v.dir ≤ 2)) && ((decide (v.len = 0) || (decide (0 < v.len) && (decide (v.len ≤ 32) && fit6 v.ty 0))) &&
    ((if single v then fit6 v.ty v.init && (decide (v.ty ≠ 4) || decide (0 ≤ v.init)) else decide (v.init = 0)) && (decide (v.dir = 0) || single v)))))
def mayV (vs : List Vr) : Int := if vs.all varB = false then 80 else if 64 < vs.length then 2 else 0
def askP (vs : List Vr) (x : List Pt) : Except Int Kd :=
  if mayV vs ≠ 0 then .error (mayV vs) else if checkP x ≠ 0 then .error (checkP x) else kindP vs x
def fitsP (vs : List Vr) (x : List Pt) (t : Int) : Int := match askP vs x with
  | .error e => e
  | .ok k => kFits k t
end Go.Proofs.YtldjiieckddhkaaGreatDoor
