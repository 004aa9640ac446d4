/- The contracts of the document's Fits, and of its signs. -/
import Derived.Test.YtfcnbiikjopajaaDoorRBasW
namespace Go.Proofs.YtfcnbiikjopajaaDoor
open Go.RowKit
theorem rtype_any (t : Int) (h1 : 1 ≤ t) (h4 : t ≤ 4) (w : World) : Calls Tryd.prog 68 #[.int .i64 t] w fun e w' => e = .returned (.bool true) ∧ w' = w := by
  go_enter Tryd.func68, Tryd.ntmps68
  go_wp2
  go_ret
  exact ⟨rfl, rfl⟩
theorem rsize_any (t : Int) (w : World) : Calls Tryd.prog 69 #[.int .i64 t] w fun e w' => e = .returned (.int .i64 (if t = 2 then 65536 else 4294967296)) ∧ w' = w := by
  by_cases h : t = 2
  · subst h
    go_enter Tryd.func69, Tryd.ntmps69
    go_wp2
    go_ret
    exact ⟨rfl, rfl⟩
  · rw [if_neg h]
    have e : (t == 2) = false := by rw [beq_eq_false_iff_ne]; exact h
    go_enter Tryd.func69, Tryd.ntmps69
    go_wp2
    go_ret
    exact ⟨rfl, rfl⟩
set_option maxRecDepth 100000 in
theorem rfits_any (t n : Int) (h1 : 1 ≤ t) (h3 : t ≤ 3) (w : World) : Calls Tryd.prog 54 #[.int .i64 t, .int .i64 n] w fun e w' => e = .returned (.bool (fitL t n)) ∧ w' = w := by
  have ct := fun W => rtype_any t h1 (by omega) W
  have cs := fun W => rsize_any t W
  by_cases h : t = 1
  · subst h
    have HR : Hid (fitL 1 n = (decide (n = 0) || decide (n = 1))) := rfl
    clear ct cs
    by_cases h0 : n = 0
    · subst h0
      go_enter Tryd.func54, Tryd.ntmps54
      go_wp2
      go_ret
      exact ⟨rfl, rfl⟩
    · have e0 : (n == 0) = false := by rw [beq_eq_false_iff_ne]; exact h0
      by_cases h1 : n = 1
      · subst h1
        go_enter Tryd.func54, Tryd.ntmps54
        go_wp2
        go_ret
        exact ⟨rfl, rfl⟩
      · have e1 : (n == 1) = false := by rw [beq_eq_false_iff_ne]; exact h1
        rw [HR.out, decide_eq_false h0, decide_eq_false h1]
        clear HR
        go_enter Tryd.func54, Tryd.ntmps54
        go_wp2
        go_ret
        exact ⟨rfl, rfl⟩
  · have et : (t == 1) = false := by rw [beq_eq_false_iff_ne]; exact h
    by_cases h2 : t = 2
    · subst h2
      rw [if_pos rfl] at cs
      have HR : Hid (fitL 2 n = (decide (-32768 ≤ n) && decide (n ≤ 32767))) := rfl
      by_cases ha : -32768 ≤ n
      · by_cases hb : n ≤ 32767
        · rw [HR.out, decide_eq_true ha, decide_eq_true hb]
          clear HR
          go_enter Tryd.func54, Tryd.ntmps54
          go_wp2_with fail
          refine (ct _).mono ?_
          rintro e w1 ⟨rfl, rfl⟩
          go_wp2_with fail
          refine (cs _).mono ?_
          rintro e w1 ⟨rfl, rfl⟩
          go_wp2_with fail
          refine (cs _).mono ?_
          rintro e w1 ⟨rfl, rfl⟩
          go_wp2
          go_ret
          exact ⟨by show Ending.returned (.bool (decide (n < 32768))) = _; rw [decide_eq_true (by omega)]; rfl, rfl⟩
        · rw [HR.out, decide_eq_true ha, decide_eq_false hb]
          clear HR
          go_enter Tryd.func54, Tryd.ntmps54
          go_wp2_with fail
          refine (ct _).mono ?_
          rintro e w1 ⟨rfl, rfl⟩
          go_wp2_with fail
          refine (cs _).mono ?_
          rintro e w1 ⟨rfl, rfl⟩
          go_wp2_with fail
          refine (cs _).mono ?_
          rintro e w1 ⟨rfl, rfl⟩
          go_wp2
          go_ret
          exact ⟨by show Ending.returned (.bool (decide (n < 32768))) = _; rw [decide_eq_false (by omega)]; rfl, rfl⟩
      · rw [HR.out, decide_eq_false ha, Bool.false_and]
        clear HR
        go_enter Tryd.func54, Tryd.ntmps54
        go_wp2_with fail
        refine (ct _).mono ?_
        rintro e w1 ⟨rfl, rfl⟩
        go_wp2_with fail
        refine (cs _).mono ?_
        rintro e w1 ⟨rfl, rfl⟩
        go_wp2
        go_ret
        exact ⟨rfl, rfl⟩
    · obtain rfl : t = 3 := by omega
      rw [if_neg (by decide)] at cs
      have HR : Hid (fitL 3 n = (decide (-2147483648 ≤ n) && decide (n ≤ 2147483647))) := rfl
      by_cases ha : -2147483648 ≤ n
      · by_cases hb : n ≤ 2147483647
        · rw [HR.out, decide_eq_true ha, decide_eq_true hb]
          clear HR
          go_enter Tryd.func54, Tryd.ntmps54
          go_wp2_with fail
          refine (ct _).mono ?_
          rintro e w1 ⟨rfl, rfl⟩
          go_wp2_with fail
          refine (cs _).mono ?_
          rintro e w1 ⟨rfl, rfl⟩
          go_wp2_with fail
          refine (cs _).mono ?_
          rintro e w1 ⟨rfl, rfl⟩
          go_wp2
          go_ret
          exact ⟨by show Ending.returned (.bool (decide (n < 2147483648))) = _; rw [decide_eq_true (by omega)]; rfl, rfl⟩
        · rw [HR.out, decide_eq_true ha, decide_eq_false hb]
          clear HR
          go_enter Tryd.func54, Tryd.ntmps54
          go_wp2_with fail
          refine (ct _).mono ?_
          rintro e w1 ⟨rfl, rfl⟩
          go_wp2_with fail
          refine (cs _).mono ?_
          rintro e w1 ⟨rfl, rfl⟩
          go_wp2_with fail
          refine (cs _).mono ?_
          rintro e w1 ⟨rfl, rfl⟩
          go_wp2
          go_ret
          exact ⟨by show Ending.returned (.bool (decide (n < 2147483648))) = _; rw [decide_eq_false (by omega)]; rfl, rfl⟩
      · rw [HR.out, decide_eq_false ha, Bool.false_and]
        clear HR
        go_enter Tryd.func54, Tryd.ntmps54
        go_wp2_with fail
        refine (ct _).mono ?_
        rintro e w1 ⟨rfl, rfl⟩
        go_wp2_with fail
        refine (cs _).mono ?_
        rintro e w1 ⟨rfl, rfl⟩
        go_wp2
        go_ret
        exact ⟨rfl, rfl⟩
theorem rfault_any (p c : Int) (w : World) : Calls Tryd.prog 24 #[.int .i64 p, .int .i64 c] w fun e w' => e = .returned (.agg #[.int .i64 p, .int .i64 c]) ∧ Below w.heap.size w w' := by
  go_enter Tryd.func24, Tryd.ntmps24
  go_wp2
  refine bodyPost_ret (v := .agg #[.int .i64 p, .int .i64 c]) ?_ rfl ⟨rfl, (Below.refl _ _).alloc (Nat.le_refl _) _⟩
  simp [results, Tryd.results24, go_sem]
abbrev SignT22 : Obj := .cells #[.string ⟨#[58, 61]⟩, .string ⟨#[60, 61]⟩, .string ⟨#[62, 61]⟩, .string ⟨#[60, 62]⟩, .string ⟨#[42, 42]⟩, .string ⟨#[46, 46]⟩, .string ⟨#[40]⟩, .string ⟨#[41]⟩, .string ⟨#[91]⟩, .string ⟨#[93]⟩, .string ⟨#[44]⟩, .string ⟨#[59]⟩, .string ⟨#[58]⟩, .string ⟨#[46]⟩, .string ⟨#[43]⟩, .string ⟨#[45]⟩, .string ⟨#[42]⟩, .string ⟨#[47]⟩, .string ⟨#[61]⟩, .string ⟨#[60]⟩, .string ⟨#[62]⟩, .string ⟨#[38]⟩] 9
set_option maxRecDepth 100000 in
theorem rsigns_any (w : World) : Calls Tryd.prog 49 #[] w fun e w' => e = .returned (.slice (some ⟨w.heap.size, 0, none⟩) 22 22) ∧ w' = w.alloc SignT22 := by
  go_enter Tryd.func49, Tryd.ntmps49
  go_wp2
  go_ret
  exact ⟨rfl, rfl⟩
theorem sign_cell (w : World) (i : Nat) (hi : i < 22) : (w.alloc SignT22).cell? ⟨w.heap.size, i, none⟩ = some (.string ⟨(signAll[i]'hi).toArray⟩) := by
  have : i = 0 ∨ i = 1 ∨ i = 2 ∨ i = 3 ∨ i = 4 ∨ i = 5 ∨ i = 6 ∨ i = 7 ∨ i = 8 ∨ i = 9 ∨ i = 10 ∨ i = 11 ∨ i = 12 ∨ i = 13 ∨ i = 14 ∨ i = 15 ∨ i = 16 ∨ i = 17 ∨ i = 18 ∨ i = 19 ∨ i = 20 ∨ i = 21 := by omega
  rcases this with rfl | rfl | rfl | rfl | rfl | rfl | rfl | rfl | rfl | rfl | rfl | rfl | rfl | rfl | rfl | rfl | rfl | rfl | rfl | rfl | rfl | rfl <;> (simp; rfl)
end Go.Proofs.YtfcnbiikjopajaaDoor
