/- The contract of the law's digits. -/
import Derived.Test.YtfcnbiikjopajaaDoorMgF
namespace Go.Proofs.YtfcnbiikjopajaaDoor
open Go.RowKit
theorem app_text (a b : Bs) : (⟨a.toArray⟩ ++ ⟨b.toArray⟩ : ByteArray) = ⟨(a ++ b).toArray⟩ := by
  apply ByteArray.ext
  rw [ByteArray.data_append]
  simp
def partIf (p : Bool) (acc : Bs) : Bs := if p then partL acc else acc
theorem part_cons (c d : UInt8) (r : Bs) : partL (c :: d :: r) = c :: 95 :: partL (d :: r) := by rw [partL]
theorem hex_piece (k : Nat) (h : k < 16) (W : World) : (Instr.slice 9 (.string ⟨#[48, 49, 50, 51, 52, 53, 54, 55, 56, 57, 97, 98, 99, 100, 101, 102]⟩) (some (.int .i64 (k : Int))) (some (.int .i64 ((k : Int) + 1))) none).run Tryd.prog W = .ok (.string ⟨[chL k].toArray⟩) W := by
  have := slice_mid ⟨#[48, 49, 50, 51, 52, 53, 54, 55, 56, 57, 97, 98, 99, 100, 101, 102]⟩ k (k + 1) (by omega) (by show k + 1 ≤ 16; omega) W
  rw [show ((k + 1 : Nat) : Int) = (k : Int) + 1 by omega] at this
  rw [this]
  have e : ∀ k : Fin 16, (([48, 49, 50, 51, 52, 53, 54, 55, 56, 57, 97, 98, 99, 100, 101, 102] : Bs).drop k.val).take (k.val + 1 - k.val) = [chL k.val] := by decide
  have := e ⟨k, h⟩
  simp only [] at this
  rw [show (⟨#[48, 49, 50, 51, 52, 53, 54, 55, 56, 57, 97, 98, 99, 100, 101, 102]⟩ : ByteArray).data.toList = ([48, 49, 50, 51, 52, 53, 54, 55, 56, 57, 97, 98, 99, 100, 101, 102] : Bs) from rfl, this]
theorem str_add (a b : ByteArray) (h : a.size + b.size ≤ 1000000) : Op.stringOp .add a b = pure (.string (a ++ b)) := by
  unfold Op.stringOp
  simp only []
  rw [if_neg]
  have : IntKind.i64.max = 9223372036854775807 := by decide
  omega
theorem partIf_len (p : Bool) (acc : Bs) : (partIf p acc).length ≤ 2 * acc.length := by
  unfold partIf
  cases p with
  | false => simp; omega
  | true => exact part_len acc
set_option maxRecDepth 100000 in
set_option maxHeartbeats 3200000 in
theorem digL_any (n base : Nat) (h2 : 2 ≤ base) (h16 : base ≤ 16) (hn : n < 2147483648) (p : Bool) (w : World) : Calls Tryd.prog 21 #[.int .i64 (n : Int), .int .i64 (base : Int), .bool p] w fun e w' => e = .returned (.string ⟨(repP base n p).toArray⟩) ∧ Below w.heap.size w w' := by
  have HR : Hid (repP base n p = partIf p (rep base n)) := by show _ = _; unfold repP partIf; cases p <;> rfl
  have HP : Hid (n < base ^ 40) := by
    show _ < _
    have h1 : (2 : Nat) ^ 40 ≤ base ^ 40 := Nat.pow_le_pow_left h2 40
    have h3 : (2 : Nat) ^ 40 = 1099511627776 := by decide
    omega
  have b2 : (2 : Int) ≤ (base : Int) := by omega
  have b16 : (base : Int) ≤ 16 := by omega
  go_enter Tryd.func21, Tryd.ntmps21
  go_wp2_with fail
  go_loopw [0, 7] (fun a s wr => ∃ (m f : Nat) (acc : Bs) (sb : ByteArray), a = .int .i64 (m : Int) ∧ s = .string sb ∧ m < 2147483648 ∧ Hid (sb = ⟨(partIf p acc).toArray⟩ ∧ m < base ^ (f + 1) ∧ repF chL base (f + 1) m ++ acc = rep base n ∧ Below w.heap.size w wr)) (fun a _ _ => (intOf a).toNat)
  case atStart => exact ⟨n, 39, [], ⟨#[]⟩, rfl, rfl, hn, by cases p <;> rfl, HP.out, by rw [List.append_nil]; rfl, Below.refl _ _⟩
  case round =>
    obtain ⟨m, f, acc, sb, rfl, rfl, hm, hh⟩ := hrel
    have m0 : (0 : Int) ≤ (m : Int) := by omega
    have m1 : (m : Int) < 2147483648 := by omega
    have hrem : (m : Int).tmod (base : Int) = ((m % base : Nat) : Int) := by rw [Int.tmod_eq_emod_of_nonneg m0]; rfl
    have hquo : (m : Int).tdiv (base : Int) = ((m / base : Nat) : Int) := by rw [Int.tdiv_eq_ediv_of_nonneg m0]; rfl
    have hlt : m % base < base := Nat.mod_lt _ (by omega)
    have hpc := fun W => hex_piece (m % base) (by omega) W
    have hbne : ¬ (base : Int) = 0 := by omega
    have r0 : (0 : Int) ≤ ((m % base : Nat) : Int) := by omega
    have r1 : ((m % base : Nat) : Int) ≤ 15 := by omega
    have hwr1 : IntKind.i64.wrap (((m % base : Nat) : Int) + 1) = ((m % base : Nat) : Int) + 1 := by rw [show ((m % base : Nat) : Int) + 1 = ((m % base + 1 : Nat) : Int) by omega]; exact wrap_i64_small _ (by omega)
    have q0 : (0 : Int) ≤ ((m / base : Nat) : Int) := Int.natCast_nonneg _
    have hqle : m / base ≤ m := Nat.div_le_self _ _
    have q1 : ((m / base : Nat) : Int) < 2147483648 := Int.ofNat_lt.2 (Nat.lt_of_le_of_lt hqle hm)
    have hsize : sb.size ≤ 80 := by
      have h1 := congrArg List.length hh.out.2.2.1
      rw [List.length_append] at h1
      have h3 : (rep base n).length ≤ 40 := repF_len _ _ _ _
      have h4 := partIf_len p acc
      rw [hh.out.1, list_size]
      omega
    have hch : (⟨[chL (m % base)].toArray⟩ : ByteArray).size = 1 := rfl
    obtain ⟨sb2, hsb⟩ : ∃ x : ByteArray, Hid (x = (⟨#[95]⟩ : ByteArray) ++ sb) := ⟨_, rfl⟩
    have add1 : Op.stringOp .add ⟨#[95]⟩ sb = pure (.string sb2) := by rw [hsb.out]; exact str_add _ _ (by show 1 + sb.size ≤ 1000000; omega)
    have hsz2 : sb2.size = 1 + sb.size := by rw [hsb.out, ByteArray.size_append]; rfl
    obtain ⟨sb3, hsb3⟩ : ∃ x : ByteArray, Hid (x = (⟨[chL (m % base)].toArray⟩ : ByteArray) ++ sb) := ⟨_, rfl⟩
    have add3 : Op.stringOp .add ⟨[chL (m % base)].toArray⟩ sb = pure (.string sb3) := by rw [hsb3.out]; exact str_add _ _ (by rw [hch]; omega)
    obtain ⟨sb4, hsb4⟩ : ∃ x : ByteArray, Hid (x = (⟨[chL (m % base)].toArray⟩ : ByteArray) ++ sb2) := ⟨_, rfl⟩
    have add4 : Op.stringOp .add ⟨[chL (m % base)].toArray⟩ sb2 = pure (.string sb4) := by rw [hsb4.out]; exact str_add _ _ (by rw [hch]; omega)
    have HS : Hid (∀ sb2 : ByteArray, (sb2 = (if acc ≠ [] ∧ p = true then (⟨#[95]⟩ : ByteArray) ++ sb else sb)) → (⟨[chL (m % base)].toArray⟩ : ByteArray) ++ sb2 = ⟨(partIf p (chL (m % base) :: acc)).toArray⟩) := fun sb2 e => by
      rw [e, hh.out.1]
      cases p with
      | false =>
        rw [if_neg (by simp)]
        exact app_text _ _
      | true =>
        match acc with
        | [] => rw [if_neg (by simp)]; exact app_text _ _
        | d :: r =>
          rw [if_pos ⟨by simp, rfl⟩, show (⟨#[95]⟩ : ByteArray) = ⟨[95].toArray⟩ from rfl, app_text, app_text]
          show _ = (⟨(partL (chL (m % base) :: d :: r)).toArray⟩ : ByteArray)
          rw [part_cons]
          rfl
    have HE : Hid (sb.toList.isEmpty = decide (acc = [])) := by
      show _ = _
      rw [hh.out.1, ByteArray.toList_eq]
      match acc with
      | [] => cases p <;> rfl
      | d :: r => cases p <;> cases r <;> rfl
    have HN : Hid (m / base ≠ 0 → ∃ f', f = f' + 1 ∧ m / base < base ^ (f' + 1) ∧ repF chL base (f' + 1) (m / base) ++ (chL (m % base) :: acc) = rep base n) := fun h0 => by
      have hf : f ≠ 0 := fun e => by
        have := hh.out.2.1
        rw [e, Nat.zero_add, Nat.pow_one] at this
        exact h0 (Nat.div_eq_of_lt this)
      obtain ⟨f', rfl⟩ : ∃ f', f = f' + 1 := ⟨f - 1, by omega⟩
      refine ⟨f', rfl, ?_, ?_⟩
      · have := hh.out.2.1
        rw [Nat.pow_succ] at this
        exact Nat.div_lt_of_lt_mul (by rw [Nat.mul_comm]; exact this)
      · have e : repF chL base (f' + 1 + 1) m = repF chL base (f' + 1) (m / base) ++ [chL (m % base)] := by rw [repF, if_neg h0]
        rw [← hh.out.2.2.1, e, List.append_assoc]
        rfl
    have HZ : Hid (m / base = 0 → chL (m % base) :: acc = rep base n) := fun h0 => by
      rw [← hh.out.2.2.1, repF, if_pos h0]
      rfl
    have HB := hide hh.out.2.2.2
    have hdec : m / base ≠ 0 → m / base < m := fun h => by
      have hm0 : 0 < m := by
        rcases Nat.eq_zero_or_pos m with e | e
        · rw [e, Nat.zero_div] at h; exact absurd rfl h
        · exact e
      exact Nat.div_lt_self hm0 (by omega)
    have HD := hide hdec
    generalize (⟨[chL (m % base)].toArray⟩ : ByteArray) = ch at *
    generalize ((m % base : Nat) : Int) = rm at *
    obtain ⟨q, hqq⟩ : ∃ q, q = m / base := ⟨_, rfl⟩
    rw [← hqq] at hquo q0 q1 HN HZ HD
    generalize (base : Int) = B at *
    replace hqq := hide hqq
    clear hh hqle hdec hsize hsz2 hch
    by_cases hc : acc ≠ [] ∧ p = true
    · obtain ⟨hc1, rfl⟩ := hc
      have he : sb.toList.isEmpty = false := by rw [HE.out]; exact decide_eq_false hc1
      by_cases hq0 : q = 0
      · subst hq0
        go_wp2
        go_quiet (fail)
        go_wp2
        go_ret
        refine ⟨?_, below_drawn HB.out _⟩
        rw [HR.out, ← HZ.out (by simp), ← HS.out sb2 (by rw [if_pos (by simp [hc1])]; exact hsb.out), ← hsb4.out]
        rfl
      · have hqi : ((q : Int) == 0) = false := by rw [beq_eq_false_iff_ne]; omega
        obtain ⟨f', rfl, hf1, hf2⟩ := HN.out hq0
        go_wp2
        go_quiet (fail)
        go_wp2
        go_roundw
        case rel =>
          refine ⟨q, f', chL (m % base) :: acc, _, rfl, rfl, by omega, ?_, hf1, hf2, below_drawn HB.out _⟩
          rw [hsb4.out]; exact HS.out sb2 (by rw [if_pos (by simp [hc1])]; exact hsb.out)
        case measure => simp only [intOf]; have := HD.out hq0; omega
    · by_cases hc1 : acc = []
      · have he : sb.toList.isEmpty = true := by rw [HE.out]; exact decide_eq_true hc1
        by_cases hq0 : q = 0
        · subst hq0
          go_wp2
          go_quiet (fail)
          go_wp2
          go_ret
          refine ⟨?_, below_drawn HB.out _⟩
          rw [HR.out, ← HZ.out (by simp), ← HS.out sb (by rw [if_neg hc]), ← hsb3.out]
          rfl
        · have hqi : ((q : Int) == 0) = false := by rw [beq_eq_false_iff_ne]; omega
          obtain ⟨f', rfl, hf1, hf2⟩ := HN.out hq0
          go_wp2
          go_quiet (fail)
          go_wp2
          go_roundw
          case rel =>
            refine ⟨q, f', chL (m % base) :: acc, _, rfl, rfl, by omega, ?_, hf1, hf2, below_drawn HB.out _⟩
            rw [hsb3.out]; exact HS.out sb (by rw [if_neg hc])
          case measure => simp only [intOf]; have := HD.out hq0; omega
      · have hp : p = false := by cases p with | false => rfl | true => exact absurd ⟨hc1, rfl⟩ hc
        subst hp
        have he : sb.toList.isEmpty = false := by rw [HE.out]; exact decide_eq_false hc1
        by_cases hq0 : q = 0
        · subst hq0
          go_wp2
          go_quiet (fail)
          go_wp2
          go_ret
          refine ⟨?_, below_drawn HB.out _⟩
          rw [HR.out, ← HZ.out (by simp), ← HS.out sb (by rw [if_neg hc]), ← hsb3.out]
          rfl
        · have hqi : ((q : Int) == 0) = false := by rw [beq_eq_false_iff_ne]; omega
          obtain ⟨f', rfl, hf1, hf2⟩ := HN.out hq0
          go_wp2
          go_quiet (fail)
          go_wp2
          go_roundw
          case rel =>
            refine ⟨q, f', chL (m % base) :: acc, _, rfl, rfl, by omega, ?_, hf1, hf2, below_drawn HB.out _⟩
            rw [hsb3.out]; exact HS.out sb (by rw [if_neg hc])
          case measure => simp only [intOf]; have := HD.out hq0; omega
end Go.Proofs.YtfcnbiikjopajaaDoor
