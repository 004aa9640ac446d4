/- Which values fit: the contracts of the program's Fits (over its table of spans) and of the document's. -/
import Derived.Test.YtmbgcpmapaedcaaDoorN4Wr
namespace Go.Proofs.YtmbgcpmapaedcaaDoor.Four
open Go.RowKit
/-- the table of spans lies in memory -/
def Glo (w : World) : Prop := ∀ k (h : k < 10), w.cell? ⟨1, k, none⟩ = some (.int .i64 ([0, 0, 0, 1, -32768, 32767, -2147483648, 2147483647, -2147483648, 2147483647][k]'h))
theorem Glo.below {B : Nat} {w w' : World} (h : Glo w) (hb : Below B w w') (hB : 1 < B) : Glo w' := fun t ht => (hb.cell (p := ⟨1, t, none⟩) hB).trans (h t ht)
theorem Glo.lt {w : World} (h : Glo w) : 1 < w.heap.size := World.block_lt_of_cell? w _ (h 0 (by omega))
theorem fit_span (t n : Int) : fitB t n = (tyB t && (decide (([0, 0, -32768, -2147483648, -2147483648] : List Int).getD t.toNat 0 ≤ n) && decide (n ≤ ([0, 1, 32767, 2147483647, 2147483647] : List Int).getD t.toNat 0))) := by
  by_cases h1 : 1 ≤ t
  · by_cases h4 : t ≤ 4
    · have : t = 1 ∨ t = 2 ∨ t = 3 ∨ t = 4 := by omega
      rcases this with rfl | rfl | rfl | rfl
      · unfold fitB
        rw [if_pos rfl]
        show _ = (true && (decide ((0 : Int) ≤ n) && decide (n ≤ 1)))
        rw [Bool.eq_iff_iff]; simp; omega
      · unfold fitB
        rw [if_neg (by decide)]
        show (true && (decide (-(65536 / 2 : Int) ≤ n) && decide (n < 65536 / 2))) = (true && (decide ((-32768 : Int) ≤ n) && decide (n ≤ 32767)))
        rw [Bool.eq_iff_iff]; simp; omega
      all_goals
        unfold fitB
        rw [if_neg (by decide)]
        show (true && (decide (-(4294967296 / 2 : Int) ≤ n) && decide (n < 4294967296 / 2))) = (true && (decide ((-2147483648 : Int) ≤ n) && decide (n ≤ 2147483647)))
        rw [Bool.eq_iff_iff]; simp; omega
    · have e : tyB t = false := by unfold tyB; rw [decide_eq_false h4, Bool.and_false]
      unfold fitB; rw [if_neg (by omega), e]; rfl
  · have e : tyB t = false := by unfold tyB; rw [decide_eq_false h1]; rfl
    unfold fitB; rw [if_neg (by omega), e]; rfl
set_option maxRecDepth 100000 in
theorem fits_any (t n : Int) (w : World) (hg : Glo w) : Calls Tryd.prog 43 #[.int .i64 t, .int .i64 n] w fun e w' => e = .returned (.bool (fitB t n)) ∧ w' = w := by
  have E := hide (fit_span t n)
  have c := isType_any t
  by_cases ht : tyB t = true
  · rw [ht] at c
    rw [E.out, ht, Bool.true_and]
    have : t = 1 ∨ t = 2 ∨ t = 3 ∨ t = 4 := by
      unfold tyB at ht
      rw [Bool.and_eq_true] at ht
      have h1 := of_decide_eq_true ht.1
      have h2 := of_decide_eq_true ht.2
      omega
    have g0 := hg 2 (by omega)
    have g1 := hg 3 (by omega)
    have g2 := hg 4 (by omega)
    have g3 := hg 5 (by omega)
    have g4 := hg 6 (by omega)
    have g5 := hg 7 (by omega)
    have g6 := hg 8 (by omega)
    have g7 := hg 9 (by omega)
    clear E ht hg
    rcases this with rfl | rfl | rfl | rfl
    all_goals
      go_enter Tryd.func43, Tryd.ntmps43
      go_wp2_with fail
      refine (c _).mono ?_
      rintro e w1 ⟨rfl, rfl⟩
      go_wp2
    all_goals
      go_ret
      refine ⟨ret_bool ?_, rfl⟩
      simp
      omega
  · rw [Bool.not_eq_true] at ht
    rw [ht] at c
    rw [E.out, ht]
    clear E hg ht
    go_enter Tryd.func43, Tryd.ntmps43
    go_wp2_with fail
    refine (c _).mono ?_
    rintro e w1 ⟨rfl, rfl⟩
    go_wp2
    go_ret
    exact ⟨rfl, rfl⟩
end Go.Proofs.YtmbgcpmapaedcaaDoor.Four
