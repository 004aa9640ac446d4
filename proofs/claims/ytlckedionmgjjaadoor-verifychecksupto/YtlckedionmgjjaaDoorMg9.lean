/- Sets of places as words of 64 bits (no program). | verify: a set of places in memory; add, takeLeast; the library's TrailingZeros64. | The contracts of the row's result, and of the program's Wrap, Convert. | The contracts of Convert, the program's and the document's. -/
import Derived.Test.YtlckedionmgjjaaDoorMg3
import Derived.Lib.TrailingZeros
import Derived.Test.YtlckedionmgjjaaDoorVcW
import Derived.Shelf.Spec.TrailingZeros
namespace Go.Proofs.YtlckedionmgjjaaDoor
def natOf : List Bool → Nat
  | [] => 0
  | b :: r => (if b then 1 else 0) + 2 * natOf r
theorem natOf_lt : ∀ l : List Bool, natOf l < 2 ^ l.length
  | [] => by simp [natOf]
  | b :: r => by
    have := natOf_lt r
    simp only [natOf, List.length_cons, Nat.pow_succ]
    split <;> omega
theorem natOf_bit : ∀ (l : List Bool) (i : Nat), (natOf l).testBit i = l.getD i false
  | [], i => by simp [natOf]
  | b :: r, 0 => by
    simp only [natOf, List.getD_cons_zero, Nat.testBit_zero]
    cases b <;> simp
  | b :: r, i + 1 => by
    rw [Nat.testBit_succ]
    have : natOf (b :: r) / 2 = natOf r := by
      simp only [natOf]
      split <;> omega
    rw [this, natOf_bit r i, List.getD_cons_succ]
theorem natOf_or (l : List Bool) (k : Nat) (h : k < l.length) : natOf l ||| 2 ^ k = natOf (l.set k true) := by
  apply Nat.eq_of_testBit_eq
  intro i
  rw [Nat.testBit_or, natOf_bit, natOf_bit, Nat.testBit_two_pow, getD_set]
  by_cases e : k = i
  · subst e; simp [h]
  · simp [e]
theorem two_and (a b : Nat) : (2 * a) &&& (2 * b + 1) = 2 * (a &&& b) := by
  apply Nat.eq_of_testBit_eq
  intro i
  cases i with
  | zero => simp [Nat.testBit_zero]
  | succ i =>
    rw [Nat.testBit_and, Nat.testBit_succ, Nat.testBit_succ, Nat.testBit_succ, show 2 * a / 2 = a by omega, show (2 * b + 1) / 2 = b by omega, show 2 * (a &&& b) / 2 = a &&& b by omega, Nat.testBit_and]
theorem one_and (y : Nat) : (1 + 2 * y) &&& (2 * y) = 2 * y := by
  apply Nat.eq_of_testBit_eq
  intro i
  cases i with
  | zero => simp [Nat.testBit_zero]
  | succ i => rw [Nat.testBit_and, Nat.testBit_succ, Nat.testBit_succ, show (1 + 2 * y) / 2 = y by omega, show 2 * y / 2 = y by omega]; simp
theorem least_pos : ∀ (l : List Bool) (k : Nat), leastS l = some k → 0 < natOf l
  | [], k, h => by cases h
  | true :: r, k, _ => by simp [natOf]; omega
  | false :: r, k, h => by
    obtain ⟨j, hj, rfl⟩ := Option.map_eq_some_iff.1 h
    have := least_pos r j hj
    simp [natOf]; omega
theorem least_zero : ∀ (l : List Bool), natOf l = 0 → leastS l = none
  | [], _ => rfl
  | true :: r, h => by simp [natOf] at h
  | false :: r, h => by
    have : natOf r = 0 := by simp [natOf] at h; omega
    show (leastS r).map (· + 1) = _
    rw [least_zero r this]; rfl
theorem least_some : ∀ (l : List Bool), natOf l ≠ 0 → ∃ k, leastS l = some k ∧ k < l.length
  | [], h => absurd rfl h
  | true :: r, _ => ⟨0, rfl, by simp⟩
  | false :: r, h => by
    obtain ⟨k, hk, hl⟩ := least_some r (by simp [natOf] at h; omega)
    exact ⟨k + 1, by show (leastS r).map (· + 1) = _; rw [hk]; rfl, by simp; omega⟩
theorem and_pred : ∀ (l : List Bool) (k : Nat), leastS l = some k → natOf l &&& (natOf l - 1) = natOf (l.set k false)
  | [], k, h => by cases h
  | true :: r, k, h => by
    obtain rfl := Option.some.inj h
    simp only [natOf, List.set_cons_zero, if_true]
    rw [show 1 + 2 * natOf r - 1 = 2 * natOf r by omega, one_and]; simp
  | false :: r, k, h => by
    obtain ⟨j, hj, rfl⟩ := Option.map_eq_some_iff.1 h
    have h0 := least_pos r j hj
    have ih := and_pred r j hj
    simp only [natOf, List.set_cons_succ, Bool.false_eq_true, if_false, Nat.zero_add]
    rw [show 2 * natOf r - 1 = 2 * (natOf r - 1) + 1 by omega, two_and, ih]
theorem ctz_least : ∀ (f : Nat) (l : List Bool) (k : Nat), leastS l = some k → k < f → Lib.ctzFrom f (natOf l) = k
  | 0, l, k, _, hf => absurd hf (Nat.not_lt_zero _)
  | f + 1, [], k, h, _ => by cases h
  | f + 1, true :: r, k, h, _ => by
    obtain rfl := Option.some.inj h
    unfold Lib.ctzFrom
    rw [if_pos (by simp [natOf])]
  | f + 1, false :: r, k, h, hf => by
    obtain ⟨j, hj, rfl⟩ := Option.map_eq_some_iff.1 h
    unfold Lib.ctzFrom
    rw [if_neg (by simp [natOf]), show natOf (false :: r) / 2 = natOf r by simp [natOf], ctz_least f r j hj (by omega), Nat.add_comm]
/-- the j-th word of a set of places -/
def wrdB (wt : List Bool) (j : Nat) : List Bool := (List.range 64).map fun i => wt.getD (64 * j + i) false
def wordN (wt : List Bool) (j : Nat) : Nat := natOf (wrdB wt j)
theorem wrdB_length (wt : List Bool) (j : Nat) : (wrdB wt j).length = 64 := by simp [wrdB]
theorem wrdB_get (wt : List Bool) (j i : Nat) (h : i < 64) : (wrdB wt j)[i]? = some (wt.getD (64 * j + i) false) := by
  unfold wrdB
  rw [List.getElem?_map, List.getElem?_range h]; rfl
theorem wrdB_same (wt : List Bool) (p j : Nat) (v : Bool) (h : p / 64 = j) (hp : p < wt.length) : wrdB (wt.set p v) j = (wrdB wt j).set (p % 64) v := by
  refine List.ext_getElem? fun i => ?_
  by_cases hi : i < 64
  · rw [wrdB_get _ _ _ hi, List.getElem?_set, getD_set]
    by_cases e : p % 64 = i
    · rw [if_pos e, if_pos (show p = 64 * j + i ∧ 64 * j + i < wt.length by omega), if_pos (show p % 64 < (wrdB wt j).length by rw [wrdB_length]; omega)]
    · rw [if_neg e, if_neg (show ¬ (p = 64 * j + i ∧ 64 * j + i < wt.length) by omega), wrdB_get _ _ _ hi]
  · rw [List.getElem?_eq_none (by rw [wrdB_length]; omega), List.getElem?_eq_none (by rw [List.length_set, wrdB_length]; omega)]
theorem wrdB_other (wt : List Bool) (p j : Nat) (v : Bool) (h : p / 64 ≠ j) : wrdB (wt.set p v) j = wrdB wt j := by
  refine List.ext_getElem? fun i => ?_
  by_cases hi : i < 64
  · rw [wrdB_get _ _ _ hi, wrdB_get _ _ _ hi, getD_set, if_neg (by omega)]
  · rw [List.getElem?_eq_none (by rw [wrdB_length]; omega), List.getElem?_eq_none (by rw [wrdB_length]; omega)]
theorem word_lt (wt : List Bool) (j : Nat) : wordN wt j < 18446744073709551616 := by
  have := natOf_lt (wrdB wt j)
  rw [wrdB_length] at this
  exact this
theorem word_add (wt : List Bool) (p : Nat) (hp : p < wt.length) : wordN wt (p / 64) ||| 2 ^ (p % 64) = wordN (wt.set p true) (p / 64) := by
  unfold wordN
  rw [natOf_or _ _ (by rw [wrdB_length]; omega), wrdB_same wt p _ true rfl hp]
theorem word_other (wt : List Bool) (p j : Nat) (v : Bool) (h : p / 64 ≠ j) : wordN (wt.set p v) j = wordN wt j := by
  unfold wordN; rw [wrdB_other wt p j v h]
/-- where all words ahead are nought, and this one is not, the least place lies here -/
theorem word_least (wt : List Bool) (n : Nat) (h0 : ∀ i, i < 64 * n → wt.getD i false = false) (h : wordN wt n ≠ 0) :
    ∃ k, k < 64 ∧ leastS wt = some (64 * n + k) ∧ Lib.ctz 64 (wordN wt n) = k ∧ wordN wt n &&& (wordN wt n - 1) = wordN (wt.set (64 * n + k) false) n ∧ 64 * n + k < wt.length := by
  obtain ⟨k, hk, hl⟩ := least_some _ h
  rw [wrdB_length] at hl
  obtain ⟨g1, g2⟩ := least_get _ _ hk
  rw [wrdB_get _ _ _ hl] at g1
  have ht := Option.some.inj g1
  have hlt : 64 * n + k < wt.length := by
    rw [List.getD_eq_getElem?_getD] at ht
    by_cases e : 64 * n + k < wt.length
    · exact e
    · rw [List.getElem?_eq_none (by omega)] at ht; simp at ht
  have get : ∀ j, j < wt.length → wt[j]? = some (wt.getD j false) := fun j hj => by
    rw [List.getD_eq_getElem?_getD, List.getElem?_eq_getElem hj]; rfl
  refine ⟨k, hl, least_of wt _ ?_ (fun j hj => ?_), ?_, ?_, hlt⟩
  · rw [get _ hlt, ht]
  · rw [get _ (by omega)]
    by_cases e : j < 64 * n
    · rw [h0 j e]
    · have := g2 (j - 64 * n) (by omega)
      rw [wrdB_get _ _ _ (by omega), show 64 * n + (j - 64 * n) = j by omega] at this
      exact this
  · unfold Lib.ctz
    rw [if_neg h]
    exact ctz_least 64 _ k hk hl
  · unfold wordN
    rw [and_pred _ _ hk, wrdB_same wt (64 * n + k) n false (by omega) hlt, show (64 * n + k) % 64 = k by omega]
theorem word_zero (wt : List Bool) (n : Nat) (h0 : ∀ i, i < 64 * n → wt.getD i false = false) (h : wordN wt n = 0) : ∀ i, i < 64 * (n + 1) → wt.getD i false = false := fun i hi => by
  by_cases e : i < 64 * n
  · exact h0 i e
  · have := natOf_bit (wrdB wt n) (i - 64 * n)
    rw [show natOf (wrdB wt n) = 0 from h, Nat.zero_testBit, List.getD_eq_getElem?_getD, wrdB_get _ _ _ (by omega), show 64 * n + (i - 64 * n) = i by omega] at this
    exact this.symm
theorem word_none (wt : List Bool) (hn : wt.length ≤ 4096) (h0 : ∀ i, i < 64 * 64 → wt.getD i false = false) : leastS wt = none :=
  least_of_none wt fun j hj => by
    have := h0 j (by omega)
    rw [List.getD_eq_getElem?_getD, List.getElem?_eq_getElem hj] at this
    rw [List.getElem?_eq_getElem hj]
    exact congrArg some this
end Go.Proofs.YtlckedionmgjjaaDoor
namespace Go.Proofs.YtlckedionmgjjaaDoor
open Go.RowKit
/-- the library's table in its variable -/
def Tz (w : World) : Prop := ∀ j, j < 64 → w.cell? ⟨2, j, none⟩ = some (.int .u8 (Lib.deBruijn64tab.getD j 0 : Nat))
theorem Tz.on {w w' : World} {B : Nat} (h : Tz w) (hb : Below B w w') (hB : 2 < B) : Tz w' := fun j hj => (hb.cell (p := ⟨2, j, none⟩) hB).trans (h j hj)
theorem Tz.lt {w : World} (h : Tz w) : 2 < w.heap.size := World.block_lt_of_cell? w _ (h 0 (by omega))
set_option maxHeartbeats 1000000 in
theorem tz_core (x k idx : Nat) (w : World) (hx0 : ((x : Int) == 0) = false)
    (key : IntKind.u64.wrap (bits BinOp.and IntKind.u64 (x : Int) (IntKind.u64.wrap (-(x : Int))) * 285870213051353865) / 288230376151711744 = (idx : Int))
    (hi : idx < 64) (hk : k < 64) (hcell : w.cell? ⟨2, idx, none⟩ = some (.int .u8 k)) :
    Calls Tryd.prog 57 #[.int .u64 x] w fun e w' => e = .returned (.int .i64 k) ∧ w' = w := by
  go_enter Tryd.func57, Tryd.ntmps57
  go_wp2_with (simp only [key])
  go_ret
  exact ⟨rfl, rfl⟩
theorem tz_any (x : Nat) (hx : x < 18446744073709551616) (h0 : x ≠ 0) (w : World) (hT : Tz w) : Calls Tryd.prog 57 #[.int .u64 (x : Int)] w fun e w' => e = .returned (.int .i64 (Lib.ctz 64 x : Nat)) ∧ w' = w := by
  obtain ⟨hlow, hk⟩ := Lib.lowest_bit 64 x h0 hx
  obtain ⟨hi, htab⟩ := Lib.deBruijn64_at _ hk
  have hcell := hT _ hi
  rw [htab] at hcell
  exact tz_core x _ _ w (by simp; omega) (tz64_key x _ hx h0 hlow) hi hk hcell
/-- a walk's cells -/
def wrdC (wt : List Bool) : List Value := (List.range 64).map fun j => .int .u64 (wordN wt j : Nat)
def encW (xs : List Value) (wt : List Bool) (dp : Nat) : List Value := xs ++ (wrdC wt ++ [.int .i64 (dp : Int)])
theorem wrdC_length (wt : List Bool) : (wrdC wt).length = 64 := by simp [wrdC]
theorem wrdC_get (wt : List Bool) (j : Nat) (h : j < 64) : (wrdC wt)[j]? = some (.int .u64 (wordN wt j : Nat)) := by
  unfold wrdC
  rw [List.getElem?_map, List.getElem?_range h]; rfl
theorem encW_word {xs : List Value} (hx : xs.length = 8) (wt : List Bool) (dp : Nat) (j : Nat) (h : j < 64) : (encW xs wt dp)[8 + j]? = some (.int .u64 (wordN wt j : Nat)) := by
  unfold encW
  rw [List.getElem?_append_right (by omega), hx, Nat.add_sub_cancel_left, List.getElem?_append_left (by rw [wrdC_length]; exact h), wrdC_get wt j h]
theorem encW_x {xs : List Value} (hx : xs.length = 8) (wt : List Bool) (dp : Nat) (k : Nat) (h : k < 8) : (encW xs wt dp)[k]? = xs[k]? := by
  unfold encW
  rw [List.getElem?_append_left (by omega)]
theorem encW_dp {xs : List Value} (hx : xs.length = 8) (wt : List Bool) (dp : Nat) : (encW xs wt dp)[72]? = some (.int .i64 (dp : Int)) := by
  unfold encW
  rw [List.getElem?_append_right (by omega), hx, List.getElem?_append_right (by rw [wrdC_length]; omega), wrdC_length]; rfl
theorem wrdC_set (wt : List Bool) (p : Nat) (v : Bool) : (wrdC wt).set (p / 64) (.int .u64 (wordN (wt.set p v) (p / 64) : Nat)) = wrdC (wt.set p v) := by
  refine List.ext_getElem? fun j => ?_
  by_cases hj : j < 64
  · rw [List.getElem?_set, wrdC_get _ _ hj]
    by_cases e : p / 64 = j
    · rw [if_pos e, if_pos (show p / 64 < (wrdC wt).length by rw [wrdC_length]; omega), e, wrdC_get _ _ hj]
    · rw [if_neg e, wrdC_get _ _ hj, word_other wt p j v e]
  · rw [List.getElem?_eq_none (by rw [List.length_set, wrdC_length]; omega), List.getElem?_eq_none (by rw [wrdC_length]; omega)]
theorem encW_set {xs : List Value} (hx : xs.length = 8) (wt : List Bool) (dp p : Nat) (hp : p < 4096) (v : Bool) : (encW xs wt dp).set (8 + p / 64) (.int .u64 (wordN (wt.set p v) (p / 64) : Nat)) = encW xs (wt.set p v) dp := by
  unfold encW
  rw [List.set_append_right _ _ (by omega), hx, Nat.add_sub_cancel_left, List.set_append_left _ _ (by rw [wrdC_length]; omega), wrdC_set]
theorem encW_deep {xs : List Value} (hx : xs.length = 8) (wt : List Bool) (dp d : Nat) : (encW xs wt dp).set 72 (.int .i64 (d : Int)) = encW xs wt d := by
  unfold encW
  rw [List.set_append_right _ _ (by omega), hx, List.set_append_right _ _ (by rw [wrdC_length]; omega), wrdC_length]; rfl
theorem shl_one (m : Nat) (h : m < 64) : Op.shift .shl .u64 1 .i64 (m : Int) = pure (.int .u64 ((2 ^ m : Nat) : Int)) := by
  rw [shift_shl_any _ _ _ _ (by omega), IntKind.wrap_u64]
  congr 2
  have : ∀ k : Fin 64, (1 * 2 ^ min (k.val : Int).toNat IntKind.u64.bits : Int) % 18446744073709551616 = ((2 ^ k.val : Nat) : Int) := by decide +kernel
  exact this ⟨m, h⟩
set_option maxRecDepth 100000 in
set_option maxHeartbeats 1600000 in
theorem add_any (g p : Nat) (xs : List Value) (hx : xs.length = 8) (wt : List Bool) (dp : Nat) (w : World) (hG : Ob w g 55 (encW xs wt dp)) (hp : p < wt.length) (hn : wt.length ≤ 4096) :
    Calls Tryd.prog 56 #[.pointer (some ⟨g, 8, none⟩), .int .i64 (p : Int)] w fun e w' => e = .returned (.tuple #[]) ∧ Ob w' g 55 (encW xs (wt.set p true) dp) ∧ But g w w' := by
  have HG := hide hG
  have hc := hG.cell (8 + p / 64) (encW_word hx wt dp (p / 64) (by omega))
  have hf := hG.fr (8 + p / 64)
  have HE := hide (encW_set hx wt dp p (by omega) true)
  rw [← word_add wt p hp] at HE
  have hsh := shl_one (p % 64) (by omega)
  have hor := bits_or_u64_nat (wordN wt (p / 64)) (2 ^ (p % 64)) (word_lt wt _) (Nat.pow_lt_pow_right (by omega) (by omega : p % 64 < 64))
  have hq : (p : Int).tdiv 64 = ((p / 64 : Nat) : Int) := by rw [Int.tdiv_eq_ediv_of_nonneg (by omega)]; omega
  have hr : (p : Int).tmod 64 = ((p % 64 : Nat) : Int) := by rw [Int.tmod_eq_emod_of_nonneg (by omega)]; omega
  have q1 : ((p / 64 : Nat) : Int) < 64 := by omega
  have q0 : (0 : Int) ≤ ((p / 64 : Nat) : Int) := by omega
  have r0 : (0 : Int) ≤ ((p % 64 : Nat) : Int) := by omega
  generalize wordN wt (p / 64) ||| 2 ^ (p % 64) = R at *
  generalize wordN wt (p / 64) = X at *
  generalize 2 ^ (p % 64) = Y at *
  generalize p / 64 = q at *
  generalize p % 64 = r at *
  generalize encW xs (wt.set p true) dp = NEW at *
  clear hG hx hp hn
  go_enter Tryd.func56, Tryd.ntmps56
  go_wp2
  go_region
  refine bodyPost_end (results_none rfl _ _ _) rfl ⟨rfl, ?_, ((But.refl g w).set _ _).drew⟩
  have := HG.out.set (8 + q) (.int .u64 (R : Int))
  rw [HE.out] at this
  exact this
theorem dec_one (x : Nat) (h : x ≠ 0) (hx : x < 18446744073709551616) : IntKind.u64.wrap ((x : Int) - 1) = ((x - 1 : Nat) : Int) := by rw [IntKind.wrap_u64]; omega
/-- what takeLeast leaves -/
def LeastQ (g : Nat) (xs : List Value) (wt : List Bool) (dp : Nat) (w : World) (e : Ending) (w' : World) : Prop := match leastS wt with
  | none => e = .returned (.tuple #[.int .i64 0, .bool false]) ∧ Ob w' g 55 (encW xs wt dp) ∧ But g w w'
  | some k => e = .returned (.tuple #[.int .i64 (k : Int), .bool true]) ∧ Ob w' g 55 (encW xs (wt.set k false) dp) ∧ But g w w'
set_option maxRecDepth 100000 in
set_option maxHeartbeats 1600000 in
theorem least_any (g : Nat) (xs : List Value) (hx : xs.length = 8) (wt : List Bool) (dp : Nat) (w : World) (hT : Tz w) (hg2 : 2 < g) (hG : Ob w g 55 (encW xs wt dp)) (hn : wt.length ≤ 4096) :
    Calls Tryd.prog 34 #[.pointer (some ⟨g, 8, none⟩)] w fun e w' => LeastQ g xs wt dp w e w' := by
  have HG := hide hG
  have HT := hide hT
  have HX := hide hx
  have HN := hide hn
  have HC : Hid (∀ j, j < 64 → w.cell? ⟨g, 8 + j, none⟩ = some (.int .u64 (wordN wt j : Nat))) := fun j hj => hG.cell (8 + j) (encW_word hx wt dp j hj)
  have HF : Hid (∀ j, w.frozen? ⟨g, j, none⟩ = false) := hG.fr
  have H2 := hide hg2
  generalize hQ : LeastQ g xs wt dp w = Q at *
  have HQ : Hid (LeastQ g xs wt dp w = Q) := hQ
  clear hG hT hx hn hg2 hQ
  go_enter Tryd.func34, Tryd.ntmps34
  go_wp2
  go_loopw [2, 3, 4, 5, 7] (fun _ _ _ _ i wr => ∃ k : Nat, k ≤ 64 ∧ i = .int .i64 (k : Int) ∧ Hid ((∀ j, j < 64 * k → wt.getD j false = false) ∧ ∃ d, wr = w.drewN d)) (fun _ _ _ _ i _ => 64 - (intOf i).toNat)
  case atStart => exact ⟨0, by omega, rfl, fun j hj => absurd hj (by omega), 0, rfl⟩
  case round =>
    obtain ⟨k, hk, rfl, hh⟩ := hrel
    obtain ⟨hno, d, rfl⟩ := hh.out
    have HNO := hide hno
    clear hh hno
    have k0 : (0 : Int) ≤ (k : Int) := by omega
    by_cases hlt : k < 64
    · have j1 : (k : Int) < 64 := by omega
      have cx := HC.out k hlt
      have fx := HF.out (8 + k)
      by_cases hz : wordN wt k = 0
      · have HZ := hide (word_zero wt k HNO.out hz)
        rw [hz] at cx
        have cx : w.cell? ⟨g, 8 + k, none⟩ = some (.int .u64 0) := cx
        clear HNO hz
        go_wp2
        go_quiet (fail)
        go_wp2
        go_roundw
        case rel => exact ⟨k + 1, by omega, by go_num, HZ.out, _, rfl⟩
        case measure => simp [intOf]; omega
      · obtain ⟨q, hq, hL, hctz, hand, hlen⟩ := word_least wt k HNO.out hz
        have wl := word_lt wt k
        have hdec := dec_one _ hz wl
        have hba := bits_and_u64_nat (wordN wt k) (wordN wt k - 1) wl (by omega)
        rw [hand] at hba
        have HE : Hid (((encW xs wt dp).set (8 + k) (.int .u64 (wordN (wt.set (64 * k + q) false) k : Nat))) = encW xs (wt.set (64 * k + q) false) dp) := by
          have := encW_set HX.out wt dp (64 * k + q) (by omega) false
          rw [show (64 * k + q) / 64 = k by omega] at this
          exact this
        have hnz : ((wordN wt k : Nat) : Int) ≠ 0 := by omega
        have hnb : (((wordN wt k : Nat) : Int) == 0) = false := by simpa using hz
        have m57 : Hid (∀ W, Tz W → Calls Tryd.prog 57 #[.int .u64 (wordN wt k : Nat)] W fun e w' => e = .returned (.int .i64 (q : Int)) ∧ w' = W) := fun W hW => by have := tz_any _ wl hz W hW; rw [hctz] at this; exact this
        have HL : Hid (∀ w', Ob w' g 55 (encW xs (wt.set (64 * k + q) false) dp) → But g w w' → LeastQ g xs wt dp w (.returned (.tuple #[.int .i64 ((k : Int) * 64 + (q : Int)), .bool true])) w') := fun w' h1 h2 => by
          have e : (k : Int) * 64 + (q : Int) = ((64 * k + q : Nat) : Int) := by omega
          unfold LeastQ
          rw [hL, e]
          exact ⟨rfl, h1, h2⟩
        generalize wordN (wt.set (64 * k + q) false) k = R at *
        generalize wordN wt k - 1 = Y at *
        generalize wordN wt k = X at *
        generalize encW xs (wt.set (64 * k + q) false) dp = NEW at *
        have HT3 : Hid (∀ v n, Tz ((w.drewN n).setCell ⟨g, 8 + k, none⟩ v)) := fun v n j hj => by
          have := H2.out
          rw [World.cell?_setCell_other _ _ _ _ (fun e => by injection e with e; omega)]
          exact HT.out j hj
        clear HNO hz hL hctz hand hlen wl
        go_wp2
        go_quiet (fail)
        go_wp2_with fail
        refine (m57.out _ (HT3.out _ _)).mono ?_
        rintro e w1 ⟨rfl, rfl⟩
        go_wp2
        rw [← HQ.out]
        refine HL.out _ ?_ (((But.refl g w).drewN _).set _ _)
        have := (show Ob (w.drewN (d + nq)) g 55 (encW xs wt dp) from HG.out).set (8 + k) (.int .u64 (R : Int))
        rw [HE.out] at this
        exact this
    · have j2 : ¬ (k : Int) < 64 := by omega
      have HNO : Hid (∀ j, j < 64 * 64 → wt.getD j false = false) := fun j hj => HNO.out j (by omega)
      have HL : Hid (∀ w', But g w w' → Ob w' g 55 (encW xs wt dp) → LeastQ g xs wt dp w (.returned (.tuple #[.int .i64 0, .bool false])) w') := fun w' h1 h2 => by
        unfold LeastQ
        rw [word_none wt HN.out HNO.out]
        exact ⟨rfl, h2, h1⟩
      go_wp2
      rw [← HQ.out]
      exact HL.out _ ((But.refl g w).drewN _) HG.out
end Go.Proofs.YtlckedionmgjjaaDoor
namespace Go.Proofs.YtlckedionmgjjaaDoor.Four
open Go.RowKit
end Go.Proofs.YtlckedionmgjjaaDoor.Four
namespace Go.Proofs.YtlckedionmgjjaaDoor.Four
open Go.RowKit
set_option maxRecDepth 100000 in
set_option maxHeartbeats 1600000 in
theorem conv_any (f t n : Int) (w : World) (hg : Glo w) : Calls Tryd.prog 75 #[.int .i64 f, .int .i64 t, .int .i64 n] w fun e w' => e = .returned (.tuple #[.int .i64 (convN f t n).1, .int .i64 (convN f t n).2]) ∧ w' = w := by
  have c := isType_any
  have d := wrapped_any t n
  have b := fits_any f n w hg
  have E := hide (show convN f t n = if tyB f = false ∨ tyB t = false ∨ (decide (f = 1) != decide (t = 1)) = true then (0, 40) else if fitB f n = false then (0, 1) else (wrN t n, 0) from rfl)
  clear hg
  generalize fitB f n = B at *
  have c1 := c f
  have c2 := c t
  clear c
  cases hf : tyB f with
  | false =>
    rw [if_pos (.inl hf)] at E
    rw [hf] at c1
    clear hf c2 d b
    go_enter Tryd.func75, Tryd.ntmps75
    go_wp2_with fail
    refine (c1 _).mono ?_
    rintro e w1 ⟨rfl, rfl⟩
    go_wp2
    go_ret2
    exact ⟨by rw [E.out]; rfl, rfl⟩
  | true =>
    rw [hf] at c1
    cases ht : tyB t with
    | false =>
      rw [if_pos (.inr (.inl ht))] at E
      rw [ht] at c2
      clear hf ht d b
      go_enter Tryd.func75, Tryd.ntmps75
      go_wp2_with fail
      refine (c1 _).mono ?_
      rintro e w1 ⟨rfl, rfl⟩
      go_wp2_with fail
      refine (c2 _).mono ?_
      rintro e w1 ⟨rfl, rfl⟩
      go_wp2
      go_ret2
      exact ⟨by rw [E.out]; rfl, rfl⟩
    | true =>
      rw [ht] at c2
      by_cases hx : (decide (f = 1) != decide (t = 1)) = true
      · rw [if_pos (.inr (.inr hx))] at E
        have hx' : (f = 1 ∧ ¬ t = 1) ∨ (¬ f = 1 ∧ t = 1) := by
          by_cases h1 : f = 1 <;> by_cases h2 : t = 1 <;> simp [h1, h2] at hx ⊢
        have k1 : ¬ f = 1 → (f == 1) = false := fun h => by simp [h]
        have k2 : ¬ t = 1 → (t == 1) = false := fun h => by simp [h]
        clear hf ht d b hx
        have hx2 : (f = 1 ∧ (t == 1) = false) ∨ ((f == 1) = false ∧ t = 1) := hx'.imp (fun h => ⟨h.1, k2 h.2⟩) (fun h => ⟨k1 h.1, h.2⟩)
        clear k1 k2 hx'
        rcases hx2 with ⟨rfl, h2⟩ | ⟨h1, rfl⟩
        all_goals
          go_enter Tryd.func75, Tryd.ntmps75
          go_wp2_with fail
          refine (c1 _).mono ?_
          rintro e w1 ⟨rfl, rfl⟩
          go_wp2_with fail
          refine (c2 _).mono ?_
          rintro e w1 ⟨rfl, rfl⟩
          go_wp2
          go_ret2
          exact ⟨by rw [E.out]; rfl, rfl⟩
      · rw [if_neg (by rw [hf, ht]; simp only [Bool.true_eq_false, false_or]; exact hx)] at E
        have hx' : (f = 1 ∧ t = 1) ∨ (¬ f = 1 ∧ ¬ t = 1) := by
          by_cases h1 : f = 1 <;> by_cases h2 : t = 1 <;> simp [h1, h2] at hx ⊢
        have k1 : ¬ f = 1 → (f == 1) = false := fun h => by simp [h]
        have k2 : ¬ t = 1 → (t == 1) = false := fun h => by simp [h]
        clear hf ht hx
        cases B with
        | false =>
          rw [if_pos rfl] at E
          clear d
          have hx2 : (f = 1 ∧ t = 1) ∨ ((f == 1) = false ∧ (t == 1) = false) := hx'.imp id (fun h => ⟨k1 h.1, k2 h.2⟩)
          clear k1 k2 hx'
          rcases hx2 with ⟨rfl, rfl⟩ | ⟨h1, h2⟩
          all_goals
            go_enter Tryd.func75, Tryd.ntmps75
            go_wp2_with fail
            refine (c1 _).mono ?_
            rintro e w1 ⟨rfl, rfl⟩
            go_wp2_with fail
            refine (c2 _).mono ?_
            rintro e w1 ⟨rfl, rfl⟩
            go_wp2_with fail
            refine b.mono ?_
            rintro e w1 ⟨rfl, rfl⟩
            go_wp2
            go_ret2
            exact ⟨by rw [E.out]; rfl, rfl⟩
        | true =>
          rw [if_neg (by decide)] at E
          have hx2 : (f = 1 ∧ t = 1) ∨ ((f == 1) = false ∧ (t == 1) = false) := hx'.imp id (fun h => ⟨k1 h.1, k2 h.2⟩)
          clear k1 k2 hx'
          rcases hx2 with ⟨rfl, rfl⟩ | ⟨h1, h2⟩
          all_goals
            go_enter Tryd.func75, Tryd.ntmps75
            go_wp2_with fail
            refine (c1 _).mono ?_
            rintro e w1 ⟨rfl, rfl⟩
            go_wp2_with fail
            refine (c2 _).mono ?_
            rintro e w1 ⟨rfl, rfl⟩
            go_wp2_with fail
            refine b.mono ?_
            rintro e w1 ⟨rfl, rfl⟩
            go_wp2_with fail
            refine (d _).mono ?_
            rintro e w1 ⟨rfl, rfl⟩
            go_wp2
            go_ret2
            exact ⟨by rw [E.out]; rfl, rfl⟩
end Go.Proofs.YtlckedionmgjjaaDoor.Four
