/- The contracts of the program's digitOf, goesOn, signed, digits and number, and of the document's worth. -/
import Derived.Test.YtkicbmjjbnblfaaGreatDoorLeaf
namespace Go.Proofs.YtkicbmjjbnblfaaGreatDoor
open Go.RowKit
theorem run_idx (s : ByteArray) (k : Nat) (c : UInt8) (h : s.data.toList[k]? = some c) (W : World) : (Instr.index 9 (.string s) (.int .i64 (k : Int))).run Tryz.prog W = .ok (.int .u8 (c.toNat : Int)) W := by
  have e : s[k]? = some c := by
    have hk : k < s.size := by rw [← text_len]; exact (List.getElem?_eq_some_iff.1 h).1
    rw [Array.getElem?_toList] at h
    have h' := (Array.getElem?_eq_some_iff.1 h).2
    simp [hk]; exact h'
  have hk : k < s.size := by rw [← text_len]; exact (List.getElem?_eq_some_iff.1 h).1
  simp only [Instr.index, asIntOf, Sem.run_bind, Sem.run_pure, Result.andThen_ok, run_underlying Tryz.underlying9]
  rw [if_pos (by omega), Int.toNat_natCast]
  simp [e]
theorem below_drawn {B : Nat} {a w : World} (h : Below B a w) (n : Nat) : Below B a (w.drewN n) := h.trans ⟨rfl, rfl, rfl, Nat.le_refl _, fun _ _ => rfl⟩
theorem drop_text (t : ByteArray) (n : Nat) : (t.extract n t.size).data.toList = t.data.toList.drop n := by
  rw [ByteArray.data_extract, Array.toList_extract, List.extract_eq_take_drop]
  apply List.take_of_length_le
  rw [List.length_drop, text_len]
  exact Nat.le_refl _
theorem mid_text (t : ByteArray) (a b : Nat) : (t.extract a b).data.toList = (t.data.toList.drop a).take (b - a) := by
  rw [ByteArray.data_extract, Array.toList_extract, List.extract_eq_take_drop]
theorem slice_from (s : ByteArray) (n : Nat) (h : n ≤ s.size) (W : World) : (Instr.slice 9 (.string s) (some (.int .i64 (n : Int))) none none).run Tryz.prog W = .ok (.string ⟨(s.data.toList.drop n).toArray⟩) W := by
  rw [run_slice_string_from_if _ _ _ _ _ Tryz.underlying9, if_pos ⟨by omega, by omega⟩, Int.toNat_natCast, of_list _ _ (drop_text s n)]
theorem slice_mid (s : ByteArray) (a b : Nat) (h : a ≤ b) (h2 : b ≤ s.size) (W : World) : (Instr.slice 9 (.string s) (some (.int .i64 (a : Int))) (some (.int .i64 (b : Int))) none).run Tryz.prog W = .ok (.string ⟨((s.data.toList.drop a).take (b - a)).toArray⟩) W := by
  rw [run_slice_string _ _ _ _ _ _ _ Tryz.underlying9 (by omega) (by omega) (by omega), Int.toNat_natCast, Int.toNat_natCast, of_list _ _ (mid_text s a b)]
theorem worth_int (c : UInt8) : ((worth c : Nat) : Int) = if isDig c = true then (c.toNat : Int) - 48 else if (97 : Int) ≤ (c.toNat : Int) ∧ (c.toNat : Int) ≤ 102 then (c.toNat : Int) - 87 else if (65 : Int) ≤ (c.toNat : Int) ∧ (c.toNat : Int) ≤ 70 then (c.toNat : Int) - 55 else 99 :=
  all8 (P := fun c => ((worth c : Nat) : Int) = if isDig c = true then (c.toNat : Int) - 48 else if (97 : Int) ≤ (c.toNat : Int) ∧ (c.toNat : Int) ≤ 102 then (c.toNat : Int) - 87 else if (65 : Int) ≤ (c.toNat : Int) ∧ (c.toNat : Int) ≤ 70 then (c.toNat : Int) - 55 else 99) (by decide +kernel) c
/-- a digit of a base, or -1 -/
def digI (base : Nat) (c : UInt8) : Int := if worth c < base then (worth c : Int) else -1
theorem digI_pos {base : Nat} {c : UInt8} (h : worth c < base) : digI base c = (worth c : Int) := by unfold digI; rw [if_pos h]
theorem digI_neg {base : Nat} {c : UInt8} (h : ¬ worth c < base) : digI base c = -1 := by unfold digI; rw [if_neg h]
set_option maxRecDepth 100000 in
set_option maxHeartbeats 1600000 in
theorem digitOf_any (c : UInt8) (base : Nat) (h2 : 2 ≤ base) (h16 : base ≤ 16) (w : World) : Calls Tryz.prog 118 #[.int .u8 (c.toNat : Int), .int .i64 (base : Int)] w fun e w' => e = .returned (.int .i64 (digI base c)) ∧ w' = w := by
  have d := fun W => isDigit_any c W
  have E := hide (worth_int c)
  have hdi := dig_int c
  have hx := byte_lt c
  have E2 := hide (show digI base c = if ((worth c : Nat) : Int) < (base : Int) then ((worth c : Nat) : Int) else -1 by
    unfold digI
    by_cases h : worth c < base
    · rw [if_pos h, if_pos (by omega)]
    · rw [if_neg h, if_neg (by omega)])
  generalize digI base c = r at *
  generalize ((worth c : Nat) : Int) = v at *
  generalize isDig c = b at *
  have hx0 : (0 : Int) ≤ (c.toNat : Int) := by omega
  generalize (c.toNat : Int) = x at *
  have hb2 : (2 : Int) ≤ (base : Int) := by omega
  have hb16 : (base : Int) ≤ 16 := by omega
  generalize (base : Int) = y at *
  clear h2 h16
  have E1 := hide (show if b = true then (48 ≤ x ∧ x ≤ 57) ∧ v = x - 48 else if 97 ≤ x ∧ x ≤ 102 then v = x - 87 else if 65 ≤ x ∧ x ≤ 70 then v = x - 55 else v = 99 by
    have e := E.out
    split at e
    · rename_i hb
      rw [if_pos hb]
      subst hb
      have h := hdi.symm
      rw [Bool.and_eq_true] at h
      exact ⟨⟨of_decide_eq_true h.1, of_decide_eq_true h.2⟩, e⟩
    · rename_i hb
      rw [if_neg hb]
      split at e
      · rename_i h; rw [if_pos h]; exact e
      · rename_i h
        rw [if_neg h]
        split at e
        · rename_i h; rw [if_pos h]; exact e
        · rename_i h; rw [if_neg h]; exact e)
  clear E hdi
  cases b with
  | true =>
    have e1 := E1.out
    rw [if_pos rfl] at e1
    obtain ⟨⟨r1, r2⟩, e1⟩ := e1
    have e1 := hide e1
    clear E1
    go_enter Tryz.func118, Tryz.ntmps118
    go_wp2_with fail
    refine (d _).mono ?_
    rintro e w1 ⟨rfl, rfl⟩
    go_wp2
    all_goals
      go_ret
      refine ⟨ret_int ?_, rfl⟩
      rw [E2.out]
      have e := e1.out
      split <;> omega
  | false =>
    have e1 := hide E1.out
    rw [if_neg (by decide)] at e1
    clear E1
    go_enter Tryz.func118, Tryz.ntmps118
    go_wp2_with fail
    refine (d _).mono ?_
    rintro e w1 ⟨rfl, rfl⟩
    go_wp2
    all_goals
      go_ret
      refine ⟨ret_int ?_, rfl⟩
      rw [E2.out]
      have e := e1.out
      clear E2 e1 d
      split at e
      · split <;> omega
      · split at e
        · split <;> omega
        · split <;> omega
set_option maxRecDepth 100000 in
theorem signed_any (n : Nat) (h : n ≤ 4294967295) (w : World) : Calls Tryz.prog 100 #[.int .i64 (n : Int)] w fun e w' => e = .returned (.int .i64 (low32 n)) ∧ w' = w := by
  have E := hide (show low32 n = if 2147483648 ≤ (n : Int) then (n : Int) - 4294967296 else (n : Int) by
    unfold low32
    by_cases h : 2147483648 ≤ n
    · rw [if_pos h, if_pos (by omega)]
    · rw [if_neg h, if_neg (by omega)])
  have h1 : (n : Int) ≤ 4294967295 := by omega
  have h0 : 0 ≤ (n : Int) := by omega
  generalize low32 n = r at *
  generalize (n : Int) = x at *
  go_enter Tryz.func100, Tryz.ntmps100
  go_wp2
  all_goals
    go_ret
    refine ⟨ret_int ?_, rfl⟩
    rw [E.out]
    split <;> omega
set_option maxRecDepth 100000 in
theorem signed_over (w : World) : Calls Tryz.prog 100 #[.int .i64 4294967296] w fun e w' => e = .returned (.int .i64 0) ∧ w' = w := by
  go_enter Tryz.func100, Tryz.ntmps100
  go_wp2
  go_ret
  exact ⟨rfl, rfl⟩
theorem ne_empty (c : UInt8) (r : List UInt8) : (⟨(c :: r).toArray⟩ : ByteArray).toList.isEmpty = false := by
  rw [ByteArray.toList_eq]; rfl
set_option maxRecDepth 100000 in
theorem goesOn_any (l : List UInt8) (w : World) : Calls Tryz.prog 110 #[.string ⟨l.toArray⟩] w fun e w' => e = .returned (.bool (goesOn l)) ∧ w' = w := by
  match l with
  | [] =>
    go_enter Tryz.func110, Tryz.ntmps110
    go_wp2
    go_ret
    exact ⟨rfl, rfl⟩
  | c :: r =>
    have d := fun W => isDigit_any c W
    have x0 : ∀ W, (Instr.index 9 (.string ⟨(c :: r).toArray⟩) (.int .i64 0)).run Tryz.prog W = .ok (.int .u8 (c.toNat : Int)) W := run_idx ⟨(c :: r).toArray⟩ 0 c rfl
    have E := hide (show goesOn (c :: r) = (isDig c || decide ((c.toNat : Int) = 95)) by
      show (isDig c || decide (c = 95)) = _
      congr 1
      rw [Bool.eq_iff_iff]
      simp only [decide_eq_true_eq, u8_eq]
      exact Iff.rfl)
    have hne := ne_empty c r
    generalize goesOn (c :: r) = b at *
    generalize (⟨(c :: r).toArray⟩ : ByteArray) = s at *
    generalize isDig c = q at *
    generalize (c.toNat : Int) = x at *
    cases q
    all_goals
      go_enter Tryz.func110, Tryz.ntmps110
      go_wp2_with fail
      refine (d _).mono ?_
      rintro e w1 ⟨rfl, rfl⟩
      go_wp2
      go_ret
      exact ⟨ret_bool (by rw [E.out, Bool.eq_iff_iff]; simp), rfl⟩
end Go.Proofs.YtkicbmjjbnblfaaGreatDoor
