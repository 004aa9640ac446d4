/- What the rows' list gives: the table of spans lies in memory; a world that shows that the list can be met; a Pair among the arguments, opened and shut. | Places as bits of complex numbers: which words are 1, -1 and nought. | The contracts of quad's small functions. -/
import Derived.Test.YthifgfhgkdjkfabDoorCards
import Derived.Test.YthifgfhgkdjkfabDoorTie
import Derived.Test.YthifgfhgkdjkfabDoorMg0
import Derived.WalkKit
import Derived.ProofKit
import Derived.OpenShut
import Derived.Deep.DeepHandedRow
import Derived.Lib.LaidTab
import Derived.Lib.SmallJoins
import Derived.WalkLawsBesides
import Derived.WalkSpells
namespace Go.Proofs.YthifgfhgkdjkfabDoor
open Go.ChangeShapes Go.WideShapes Go.ChangeAt Go.RowKit
theorem own : ownKnob Tryd.prog.godebug = none := by kernel_rfl
theorem gTab : Tryd.prog.globalNamed "capstan/num.spans" = some 0 := by kernel_rfl
theorem gTabType : (Tryd.prog.globals[0]?).map (·.type) = some 53 := by kernel_rfl
theorem cells54 : Tryd.prog.cellsOf 53 = 10 := by kernel_rfl
theorem cells53 : Tryd.prog.cellsOf 52 = 2 := by kernel_rfl
theorem cells2 : Tryd.prog.cellsOf 2 = 1 := by kernel_rfl
/-- a span's two cells, off its reading -/
theorem span_cells {H : Type} {enc : TypeId × Value → H} {W : World} {base : Nat} {sp : Nat → Bool} {held : Bool} {fuel : Nat} {cs : List Value} {x : DataW H × List MemPlace} {a b : Int}
    (h : DataW.trod enc Tryd.prog W base sp held fuel 52 cs = some x) (hx : x.1 = .agg [.lit (.int .i64 a), .lit (.int .i64 b)]) : cs[0]? = some (.int .i64 a) ∧ cs[1]? = some (.int .i64 b) := by
  obtain ⟨y0, y1, n, rfl, _, h0, h1⟩ := trod_struct2 Tryd.underlying52 h
  simp only [DataW.agg.injEq, List.cons.injEq, and_true] at hx
  obtain ⟨z0, c0, e0, _⟩ := DataW.trod_int Tryd.underlying2 h0
  obtain ⟨z1, c1, e1, _⟩ := DataW.trod_int Tryd.underlying2 h1
  rw [e0, e1] at hx
  simp only [DataW.lit.injEq, Lit.int.injEq, true_and] at hx
  obtain ⟨rfl, rfl⟩ := hx
  rw [cells2] at c0 c1
  constructor
  · have := congrArg (·[0]?) c0
    simpa [List.getElem?_take, List.getElem?_drop] using this
  · have := congrArg (·[0]?) c1
    simpa [List.getElem?_take, List.getElem?_drop] using this
theorem glo_of_laid {W : World} (h : laidMetH Tryd.prog [("capstan/num.spans", Rows.laid_capstan_num_spans)] W) : Glo W := by
  have h' : laidMet Tryd.prog [("capstan/num.spans", Rows.laid_capstan_num_spans)] W := h
  obtain ⟨ps, ⟨g', t', cs, fuel, p, q, hg', ht', hvar, hd, _, _⟩, _⟩ := h'
  obtain rfl := Option.some.inj (gTab.symm.trans hg')
  obtain rfl := Option.some.inj (gTabType.symm.trans ht')
  obtain ⟨xs, m, _, hx, hl, hn, hi⟩ := DataW.trod_array Tryd.underlying53 hd
  rw [cells54] at hl
  rw [cells53] at hi
  simp only [Prod.mk.injEq] at hx
  have hxs := hx.1
  have each : ∀ i (hi5 : i < 5) (a b : Int), (xs.map (·.1))[i]? = some (.agg [.lit (.int .i64 a), .lit (.int .i64 b)]) → cs[i * 2]? = some (.int .i64 a) ∧ cs[i * 2 + 1]? = some (.int .i64 b) := fun i hi5 a b hab => by
    obtain ⟨x, hxi, hxe⟩ : ∃ x, xs[i]? = some x ∧ x.1 = .agg [.lit (.int .i64 a), .lit (.int .i64 b)] := by
      rw [List.getElem?_map, Option.map_eq_some_iff] at hab; exact hab
    have h1 := hi i hi5
    rw [hxi] at h1
    obtain ⟨c0, c1⟩ := span_cells h1 hxe
    constructor
    · simpa [List.getElem?_take, List.getElem?_drop] using c0
    · simpa [List.getElem?_take, List.getElem?_drop] using c1
  have hmap : xs.map (·.1) = [.agg [.lit (.int .i64 0), .lit (.int .i64 0)], .agg [.lit (.int .i64 0), .lit (.int .i64 1)], .agg [.lit (.int .i64 (-32768)), .lit (.int .i64 32767)], .agg [.lit (.int .i64 (-2147483648)), .lit (.int .i64 2147483647)], .agg [.lit (.int .i64 (-2147483648)), .lit (.int .i64 2147483647)]] := by
    have := hxs.symm
    injection this
  rw [hmap] at each
  have a0 := each 0 (by omega) _ _ rfl
  have a1 := each 1 (by omega) _ _ rfl
  have a2 := each 2 (by omega) _ _ rfl
  have a3 := each 3 (by omega) _ _ rfl
  have a4 := each 4 (by omega) _ _ rfl
  intro k hk
  have hc := World.var?_cell gTab hvar k
  rw [show W.cell? ⟨0, k, none⟩ = cs[k]? from by simpa using hc]
  have : k = 0 ∨ k = 1 ∨ k = 2 ∨ k = 3 ∨ k = 4 ∨ k = 5 ∨ k = 6 ∨ k = 7 ∨ k = 8 ∨ k = 9 := by omega
  rcases this with rfl | rfl | rfl | rfl | rfl | rfl | rfl | rfl | rfl | rfl
  · exact a0.1
  · exact a0.2
  · exact a1.1
  · exact a1.2
  · exact a2.1
  · exact a2.2
  · exact a3.1
  · exact a3.2
  · exact a4.1
  · exact a4.2
/-- the table laid into a world's first block -/
def layGlo (w : World) : World :=
  { w with heap := w.heap.modify 0 fun
      | .cells _ t frozen => .cells #[.int .i64 0, .int .i64 0, .int .i64 0, .int .i64 1, .int .i64 (-32768), .int .i64 32767, .int .i64 (-2147483648), .int .i64 2147483647, .int .i64 (-2147483648), .int .i64 2147483647] t frozen
      | o => o }
end Go.Proofs.YthifgfhgkdjkfabDoor
namespace Go.Proofs.YthifgfhgkdjkfabDoor
theorem rd (a : Nat) : FloatKind.f64.format.read a = if a % 9223372036854775808 < 4503599627370496 then .number (a / 9223372036854775808 % 2 == 1) (a % 9223372036854775808) (-1074)
    else if a % 9223372036854775808 < 9218868437227405312 then .number (a / 9223372036854775808 % 2 == 1) (4503599627370496 + a % 9223372036854775808 % 4503599627370496) (-1074 + ((a % 9223372036854775808 / 4503599627370496 - 1 : Nat) : Int))
    else if a % 9223372036854775808 = 9218868437227405312 then .infinity (a / 9223372036854775808 % 2 == 1) else .nan (a / 9223372036854775808 % 2 == 1) (a % 9223372036854775808 - 9218868437227405312) := rfl
theorem rd1 : FloatKind.f64.format.read 4607182418800017408 = .number false 4503599627370496 (-52) := by rfl
theorem rdm : FloatKind.f64.format.read 13830554455654793216 = .number true 4503599627370496 (-52) := by rfl
theorem rd0 : FloatKind.f64.format.read 0 = .number false 0 (-1074) := by rfl
theorem cmp_eq (x y : Int) : (some (compare x y) == some Ordering.eq) = decide (x = y) := by
  simp only [compare, compareOfLessAndEq]
  by_cases h : x < y
  · rw [if_pos h]; simp; omega
  · rw [if_neg h]
    by_cases e : x = y
    · rw [if_pos e]; simp [e]
    · rw [if_neg e]; simp [e]
theorem shl (m k : Nat) : m <<< k = m * 2 ^ k := Nat.shiftLeft_eq m k
theorem signed_zero (s t : Bool) (m k j : Nat) : (Ieee.signed s m k = Ieee.signed t 0 j) = (m = 0) := by
  have h : 0 < 2 ^ k := Nat.two_pow_pos k
  unfold Ieee.signed
  rw [shl, shl, Nat.zero_mul]
  have e : (m * 2 ^ k = 0) = (m = 0) := by
    refine propext ⟨fun e => ?_, fun e => by rw [e, Nat.zero_mul]⟩
    rcases Nat.mul_eq_zero.1 e with e | e
    · exact e
    · omega
  rw [← e]
  generalize m * 2 ^ k = q
  cases s <;> cases t <;> simp <;> omega
/-- magnitudes with a first digit of their own are the same just if both parts are -/
theorem mag_same {m n : Nat} (h1 : 4503599627370496 ≤ m) (h2 : m < 9007199254740992) (h3 : n = 4503599627370496) (x y : Nat) (hxy : x = 0 ∨ y = 0) : (m * 2 ^ x = n * 2 ^ y) ↔ (m = n ∧ x = y) := by
  constructor
  · intro e
    rcases hxy with rfl | rfl
    · cases y with
      | zero => exact ⟨by simpa using e, rfl⟩
      | succ y =>
        have : 0 < 2 ^ y := Nat.two_pow_pos y
        rw [Nat.pow_succ, h3] at e
        have : 4503599627370496 * (2 ^ y * 2) ≥ 4503599627370496 * (1 * 2) := Nat.mul_le_mul_left _ (Nat.mul_le_mul_right _ this)
        omega
    · cases x with
      | zero => exact ⟨by simpa using e, rfl⟩
      | succ x =>
        have : 0 < 2 ^ x := Nat.two_pow_pos x
        rw [Nat.pow_succ, h3] at e
        have : m * (2 ^ x * 2) ≥ m * (1 * 2) := Nat.mul_le_mul_left _ (Nat.mul_le_mul_right _ this)
        omega
  · rintro ⟨rfl, rfl⟩; rfl
theorem signed_ne (s t : Bool) (m n k j : Nat) (hn : 0 < n) (h : Ieee.signed s m k = Ieee.signed t n j) : s = t ∧ m * 2 ^ k = n * 2 ^ j := by
  have h2 : 0 < n * 2 ^ j := Nat.mul_pos hn (Nat.two_pow_pos j)
  unfold Ieee.signed at h
  rw [shl, shl] at h
  generalize m * 2 ^ k = p at h ⊢
  generalize n * 2 ^ j = q at h h2 ⊢
  cases s <;> cases t <;> simp at h ⊢ <;> omega
theorem order_one (t : Bool) (a b : Nat) (ha : a < 18446744073709551616) (hb : b = if t then 13830554455654793216 else 4607182418800017408) : (FloatKind.f64.format.order a b == some .eq) = decide (a = b) := by
  have hr : FloatKind.f64.format.read b = .number t 4503599627370496 (-52) := by cases t <;> subst hb <;> rfl
  have hb' : b % 9223372036854775808 = 4607182418800017408 ∧ (b / 9223372036854775808 % 2 == 1) = t := by cases t <;> subst hb <;> exact ⟨rfl, rfl⟩
  have hbl : b < 18446744073709551616 := by cases t <;> subst hb <;> decide
  unfold Ieee.Format.order
  by_cases e : a = b
  · subst e
    rw [hr]
    simp only [Ieee.Datum.order]
    rw [cmp_eq]; simp
  · rw [hr]
    simp only [e, decide_false]
    rw [rd]
    have key : ∀ (m : Nat) (s : Bool) (i : Int), ((Ieee.Datum.number s m i).order (Ieee.Datum.number t 4503599627370496 (-52)) == some .eq) = true → s = t ∧ m * 2 ^ (i - min i (-52)).toNat = 4503599627370496 * 2 ^ (-52 - min i (-52)).toNat := by
      intro m s i h
      simp only [Ieee.Datum.order] at h
      rw [cmp_eq] at h
      exact signed_ne _ _ _ _ _ _ (by decide) (of_decide_eq_true h)
    split
    · rename_i h1
      refine Bool.eq_false_iff.2 fun hc => ?_
      obtain ⟨_, h2⟩ := key _ _ _ hc
      have e1 : ((-1074 : Int) - min (-1074) (-52)).toNat = 0 := rfl
      rw [e1, Nat.pow_zero, Nat.mul_one] at h2
      generalize ((-52 : Int) - min (-1074) (-52)).toNat = x at h2
      have : 4503599627370496 * 1 ≤ 4503599627370496 * 2 ^ x := Nat.mul_le_mul_left _ (Nat.two_pow_pos _)
      omega
    · split
      · rename_i h0 h1
        refine Bool.eq_false_iff.2 fun hc => ?_
        obtain ⟨hs, h2⟩ := key _ _ _ hc
        have hm := Nat.mod_lt (a % 9223372036854775808) (y := 4503599627370496) (by decide)
        have h3 := (mag_same (by omega) (by omega) rfl _ _ (by omega)).1 h2
        obtain ⟨h3, h4⟩ := h3
        have h5 : a % 9223372036854775808 % 4503599627370496 = 0 := by omega
        have h6 : a % 9223372036854775808 / 4503599627370496 = 1023 := by omega
        have h7 : a % 9223372036854775808 = 4607182418800017408 := by omega
        rw [← hb'.2] at hs
        have hs' : (a / 9223372036854775808 % 2 = 1) = (b / 9223372036854775808 % 2 = 1) := by
          have := congrArg (· = true) hs
          simpa using this
        have hb1 := hb'.1
        have ha2 : a / 9223372036854775808 < 2 := by omega
        have hb2 : b / 9223372036854775808 < 2 := by omega
        have : a / 9223372036854775808 = b / 9223372036854775808 := by
          by_cases q : a / 9223372036854775808 % 2 = 1
          · have := hs' ▸ q; omega
          · have : ¬ b / 9223372036854775808 % 2 = 1 := fun z => q (hs'.symm ▸ z)
            omega
        omega
      · split
        · generalize (a / 9223372036854775808 % 2 == 1) = s; cases s <;> rfl
        · rfl
theorem order_zero (a : Nat) (ha : a < 18446744073709551616) : (FloatKind.f64.format.order a 0 == some .eq) = decide (a = 0 ∨ a = 9223372036854775808) := by
  unfold Ieee.Format.order
  rw [rd0, rd]
  have key : ∀ (m : Nat) (s : Bool) (i : Int), ((Ieee.Datum.number s m i).order (Ieee.Datum.number false 0 (-1074)) == some .eq) = decide (m = 0) := by
    intro m s i
    simp only [Ieee.Datum.order]
    rw [cmp_eq]
    exact decide_eq_decide.2 (by rw [signed_zero])
  split
  · rw [key]; exact decide_eq_decide.2 (by omega)
  · split
    · rw [key]; exact decide_eq_decide.2 (by omega)
    · have : ¬ (a = 0 ∨ a = 9223372036854775808) := by omega
      rw [decide_eq_false this]
      split
      · generalize (a / 9223372036854775808 % 2 == 1) = s; cases s <;> rfl
      · rfl
/-- the place of a complex number's words -/
def plc (a b : Nat) : Option Nat :=
  if a = 4607182418800017408 ∧ (b = 0 ∨ b = 9223372036854775808) then some 0 else if (a = 0 ∨ a = 9223372036854775808) ∧ b = 4607182418800017408 then some 1
  else if a = 13830554455654793216 ∧ (b = 0 ∨ b = 9223372036854775808) then some 2 else if (a = 0 ∨ a = 9223372036854775808) ∧ b = 13830554455654793216 then some 3 else none
theorem plc_0 (a b : Nat) : plc a b = some 0 ↔ a = 4607182418800017408 ∧ (b = 0 ∨ b = 9223372036854775808) := by unfold plc; (repeat' split) <;> simp <;> omega
theorem plc_1 (a b : Nat) : plc a b = some 1 ↔ (a = 0 ∨ a = 9223372036854775808) ∧ b = 4607182418800017408 := by unfold plc; (repeat' split) <;> simp <;> omega
theorem plc_2 (a b : Nat) : plc a b = some 2 ↔ a = 13830554455654793216 ∧ (b = 0 ∨ b = 9223372036854775808) := by unfold plc; (repeat' split) <;> simp <;> omega
theorem plc_3 (a b : Nat) : plc a b = some 3 ↔ (a = 0 ∨ a = 9223372036854775808) ∧ b = 13830554455654793216 := by unfold plc; (repeat' split) <;> simp <;> omega
theorem plc_lt {a b n : Nat} (h : plc a b = some n) : n < 4 := by
  unfold plc at h
  (repeat' split at h) <;> simp at h <;> omega
theorem o1 (a : Nat) (ha : a < 18446744073709551616) : (FloatKind.f64.format.order a 4607182418800017408 == some .eq) = decide (a = 4607182418800017408) := order_one false a _ ha rfl
theorem om (a : Nat) (ha : a < 18446744073709551616) : (FloatKind.f64.format.order a 13830554455654793216 == some .eq) = decide (a = 13830554455654793216) := order_one true a _ ha rfl
theorem eq_0 {a b : Nat} (ha : a < 18446744073709551616) (hb : b < 18446744073709551616) : ((FloatKind.f64.format.order a 4607182418800017408 == some .eq) && (FloatKind.f64.format.order b 0 == some .eq)) = decide (plc a b = some 0) := by
  rw [o1 a ha, order_zero b hb, ← Bool.decide_and]; exact decide_eq_decide.2 (plc_0 a b).symm
theorem eq_1 {a b : Nat} (ha : a < 18446744073709551616) (hb : b < 18446744073709551616) : ((FloatKind.f64.format.order a 0 == some .eq) && (FloatKind.f64.format.order b 4607182418800017408 == some .eq)) = decide (plc a b = some 1) := by
  rw [o1 b hb, order_zero a ha, ← Bool.decide_and]; exact decide_eq_decide.2 (plc_1 a b).symm
theorem eq_2 {a b : Nat} (ha : a < 18446744073709551616) (hb : b < 18446744073709551616) : ((FloatKind.f64.format.order a 13830554455654793216 == some .eq) && (FloatKind.f64.format.order b 0 == some .eq)) = decide (plc a b = some 2) := by
  rw [om a ha, order_zero b hb, ← Bool.decide_and]; exact decide_eq_decide.2 (plc_2 a b).symm
theorem eq_3 {a b : Nat} (ha : a < 18446744073709551616) (hb : b < 18446744073709551616) : ((FloatKind.f64.format.order a 0 == some .eq) && (FloatKind.f64.format.order b 13830554455654793216 == some .eq)) = decide (plc a b = some 3) := by
  rw [om b hb, order_zero a ha, ← Bool.decide_and]; exact decide_eq_decide.2 (plc_3 a b).symm
/-- the words of a place -/
theorem plc_cases {a b n : Nat} (h : plc a b = some n) : (n, a, b) ∈ [(0, 4607182418800017408, 0), (0, 4607182418800017408, 9223372036854775808), (1, 0, 4607182418800017408), (1, 9223372036854775808, 4607182418800017408), (2, 13830554455654793216, 0), (2, 13830554455654793216, 9223372036854775808), (3, 0, 13830554455654793216), (3, 9223372036854775808, 13830554455654793216)] := by
  have hn := plc_lt h
  obtain rfl | rfl | rfl | rfl : n = 0 ∨ n = 1 ∨ n = 2 ∨ n = 3 := by omega
  · obtain ⟨rfl, rfl | rfl⟩ := (plc_0 a b).1 h <;> decide
  · obtain ⟨rfl | rfl, rfl⟩ := (plc_1 a b).1 h <;> decide
  · obtain ⟨rfl, rfl | rfl⟩ := (plc_2 a b).1 h <;> decide
  · obtain ⟨rfl | rfl, rfl⟩ := (plc_3 a b).1 h <;> decide
def places : List (Nat × Nat × Nat) := [(0, 4607182418800017408, 0), (0, 4607182418800017408, 9223372036854775808), (1, 0, 4607182418800017408), (1, 9223372036854775808, 4607182418800017408), (2, 13830554455654793216, 0), (2, 13830554455654793216, 9223372036854775808), (3, 0, 13830554455654793216), (3, 9223372036854775808, 13830554455654793216)]
def mulOk (x y : Nat × Nat × Nat) : Bool := match cMulBits x.2.1 x.2.2 y.2.1 y.2.2 with
  | some (re, im) => plc re im == some ((x.1 + y.1) % 4) && decide (re < 18446744073709551616) && decide (im < 18446744073709551616)
  | none => false
theorem mul_all : (places.all fun x => places.all fun y => mulOk x y) = true := by decide +kernel
theorem mul_pl {a b c d m n : Nat} (h1 : plc a b = some m) (h2 : plc c d = some n) : ∃ re im, cMulBits a b c d = some (re, im) ∧ plc re im = some ((m + n) % 4) ∧ re < 18446744073709551616 ∧ im < 18446744073709551616 := by
  have h := mul_all
  rw [List.all_eq_true] at h
  have h := h (m, a, b) (plc_cases h1)
  rw [List.all_eq_true] at h
  have h := h (n, c, d) (plc_cases h2)
  unfold mulOk at h
  split at h
  · rename_i re im e
    rw [Bool.and_eq_true, Bool.and_eq_true] at h
    exact ⟨re, im, e, eq_of_beq h.1.1, of_decide_eq_true h.1.2, of_decide_eq_true h.2⟩
  · cases h
def conOk (x : Nat × Nat × Nat) : Bool := plc x.2.1 (Op.negFloat .f64 x.2.2) == some ((4 - x.1) % 4)
theorem con_all : (places.all conOk) = true := by decide +kernel
theorem con_pl {a b m : Nat} (h1 : plc a b = some m) : plc a (Op.negFloat .f64 b) = some ((4 - m) % 4) := by
  have h := con_all
  rw [List.all_eq_true] at h
  exact eq_of_beq (h (m, a, b) (plc_cases h1))
theorem plc_wf {a b n : Nat} (h : plc a b = some n) : a < 18446744073709551616 ∧ b < 18446744073709551616 := by
  have := plc_cases h
  simp only [List.mem_cons, Prod.mk.injEq, List.not_mem_nil, or_false] at this
  omega
end Go.Proofs.YthifgfhgkdjkfabDoor
namespace Go.Proofs.YthifgfhgkdjkfabDoor
open Go.RowKit
theorem run_store_complex {P : Program} (w : World) (a : Addr) (m : Mode) (k : FloatKind) (x y : Nat) : (store a (.complex k x y) m).run P w = stored P w a (.complex k x y) m := run_store P w a _ m rfl
theorem run_store_float {P : Program} (w : World) (a : Addr) (m : Mode) (k : FloatKind) (x : Nat) : (store a (.float k x) m).run P w = stored P w a (.float k x) m := run_store P w a _ m rfl
theorem unary_neg_float (k : FloatKind) (x : Nat) : Op.unary .neg (.float k x) = pure (.float k (Op.negFloat k x)) := rfl
attribute [local go_sem] run_store_complex run_store_float unary_neg_float
/-- the four places, as values -/
def crc : Array Value := #[.complex .f64 4607182418800017408 0, .complex .f64 0 4607182418800017408, .complex .f64 13830554455654793216 0, .complex .f64 0 13830554455654793216]
set_option maxHeartbeats 400000 in
theorem circle_any (w : World) : Calls Tryd.prog 84 #[] w fun e w' => e = .returned (.agg #[.complex .f64 4607182418800017408 0, .complex .f64 0 4607182418800017408, .complex .f64 13830554455654793216 0, .complex .f64 0 13830554455654793216]) ∧ w' = w.alloc (.cells crc 141) := by
  go_enter Tryd.func84, Tryd.ntmps84
  go_wp2
  exact bodyPost_ret (results_cell_row rfl _ _ w.heap.size 141 crc (0, 0) _ rfl (heap_alloc_new _ _) Tryd.underlying141 rfl (by kernel_rfl)) rfl ⟨rfl, rfl⟩
set_option maxHeartbeats 400000 in
theorem conj_any (a b : Nat) (w : World) : Calls Tryd.prog 87 #[.complex .f64 a b] w fun e w' => e = .returned (.complex .f64 a (Op.negFloat .f64 b)) ∧ w' = w := by
  go_enter Tryd.func87, Tryd.ntmps87
  go_wp2
  go_ret
  exact ⟨rfl, rfl⟩
set_option maxHeartbeats 400000 in
theorem placeOf_any (a b : Bool) (w : World) : Calls Tryd.prog 81 #[.bool a, .bool b] w fun e w' => (∃ x y, e = .returned (.complex .f64 x y) ∧ plc x y = some (if a && b then 2 else if a then 1 else if b then 3 else 0)) ∧ w' = w := by
  cases a <;> cases b
  all_goals
    go_enter Tryd.func81, Tryd.ntmps81
    go_wp2
    go_ret
    exact ⟨⟨_, _, rfl, rfl⟩, rfl⟩
/-- is a number a place's? -/
def isP (n : Int) : Bool := decide (0 ≤ n) && decide (n ≤ 3)
theorem isP_iff (n : Int) : isP n = true ↔ 0 ≤ n ∧ n ≤ 3 := by unfold isP; simp
theorem isP_nat {n : Int} (h : isP n = true) : ∃ k : Nat, k < 4 ∧ n = (k : Int) := ⟨n.toNat, by have := (isP_iff n).1 h; omega, by have := (isP_iff n).1 h; omega⟩
theorem isP_of {k : Nat} (h : k < 4) : isP (k : Int) = true := (isP_iff _).2 (by omega)
/-- the step from a place to a place, and whether it jumped -/
def stp (m n : Nat) : Int := if (n + 4 - m) % 4 = 1 then 1 else if (n + 4 - m) % 4 = 3 then -1 else 0
def jmp (m n : Nat) : Bool := (n + 4 - m) % 4 == 2
/-- what Step answers -/
def stepV (m n : Int) : Int × Int := if isP m && isP n then (stp m.toNat n.toNat, if jmp m.toNat n.toNat then 110 else 0) else (0, 1)
set_option maxHeartbeats 400000 in
theorem between_any (a b c d m n : Nat) (h1 : plc a b = some m) (h2 : plc c d = some n) (w : World) : Calls Tryd.prog 86 #[.complex .f64 a b, .complex .f64 c d] w fun e w' => e = .returned (.tuple #[.int .i64 (stp m n), .bool (jmp m n)]) ∧ w' = w := by
  obtain ⟨x, y, e1, e2, e3, e4⟩ := mul_pl h2 (con_pl h1)
  have hm := plc_lt h1
  have hn := plc_lt h2
  have hk : (n + (4 - m) % 4) % 4 = (n + 4 - m) % 4 := by omega
  rw [hk] at e2
  have q0 := eq_0 e3 e4
  have q1 := eq_1 e3 e4
  have q3 := eq_3 e3 e4
  rw [e2] at q0 q1 q3
  have hmul : ∀ t W, (binOp .mul t (.complex .f64 c d) (.complex .f64 a (Op.negFloat .f64 b))).run Tryd.prog W = .ok (.complex .f64 x y) W := fun t W => run_complex_mul W t _ _ _ _ _ _ e1
  have m1 := fun W => conj_any a b W
  unfold stp jmp
  clear h1 h2 e1 e2 hk
  have hk : (n + 4 - m) % 4 < 4 := Nat.mod_lt _ (by decide)
  generalize (n + 4 - m) % 4 = k at *
  clear e3 e4 hm hn
  obtain rfl | rfl | rfl | rfl : k = 0 ∨ k = 1 ∨ k = 2 ∨ k = 3 := by omega
  all_goals
    clear hk
    simp only [Option.some.injEq] at q0 q1 q3
    go_enter Tryd.func86, Tryd.ntmps86
    go_wp2_with (first | (go_at_call 87; refine (m1 _).mono ?_; rintro e w1 ⟨rfl, rfl⟩))
    go_ret2
    exact ⟨rfl, rfl⟩
end Go.Proofs.YthifgfhgkdjkfabDoor
