/- Timers that are called at rising times, plainly. -/
import Derived.Test.YthifgfhgkdjkfaaDoorCfP
namespace Go.Proofs.YthifgfhgkdjkfaaDoor
def onS (st : Bool) (P f T : Int) : List Int := if st then [1, P, flagN (decide (P ≤ T - f)), min (T - f) P, f, 1] else [1, P, 0, 0, 0, 0]
def offS (st : Bool) (P f T : Int) : List Int := if st then [0, P, flagN (decide (T - f < P)), min (T - f) P, f, flagN (decide (T - f < P))] else [0, P, 1, 0, 0, 0]
def puS (st : Bool) (P f T S : Int) : List Int := if st then [1, P, flagN (decide (T - f < P)), min (T - f) P, S, flagN (decide (T - f < P))] else [1, P, 0, 0, 0, 0]
theorem time_fits {v : Int} (h : 0 ≤ v ∧ v ≤ 2000000) : fitB 4 v = true := by
  rw [fit_span]; simp [tyB]; omega
theorem gone_of {a b : Int} (h : 0 ≤ a - b ∧ a - b ≤ 2000000) : goneN a b = a - b := by
  unfold goneN
  exact wr_fit (time_fits h)
theorem now_ok {v : Int} (h : 0 ≤ v ∧ v ≤ 2000000) : nowOk v = true := by unfold nowOk; simp; omega
theorem flag1 : flagN true = 1 := rfl
theorem flag0 : flagN false = 0 := rfl
/-- what is known of the numbers: a state at T, the next call at V -/
structure Tms (st : Bool) (P f T V : Int) : Prop where
  p0 : 0 ≤ P
  p1 : P ≤ 100000
  f0 : 0 ≤ f
  tv : T ≤ V
  v1 : V ≤ 1900000
  ft : st = true → f ≤ T
  fv : f ≤ V
  no : st = false → V = f
theorem on_step {st : Bool} {P f T V : Int} (h : Tms st P f T V) : stepE 1 (onS st P f T) V = 0 ∧ stepL 1 (onS st P f T) V = onS true P f V := by
  obtain ⟨p0, p1, f0, tv, v1, ft, fv, no⟩ := h
  cases st
  · obtain rfl := no rfl
    have e : onS false P V T = [1, P, 0, 0, 0, 0] := rfl
    rw [e]
    refine ⟨stepE_zero.2 ⟨by omega, rfl, ?_, now_ok (by omega)⟩, ?_⟩
    · simp [fitL, fldK, time_fits (v := P) (by omega)]; decide
    · have e2 : tmL [1, P, 0, 0, 0, 0] = ⟨true, P, false, 0, 0, false⟩ := by simp [tmL]
      unfold stepL
      rw [if_pos rfl, e2]
      simp only [tonT, Tm.ls, onS, if_true, if_false, Bool.false_eq_true, gone_of (a := V) (b := V) (by omega), flag1]
  · have ft := ft rfl
    have e : onS true P f T = [1, P, flagN (decide (P ≤ T - f)), min (T - f) P, f, 1] := rfl
    rw [e]
    refine ⟨stepE_zero.2 ⟨by omega, rfl, ?_, now_ok (by omega)⟩, ?_⟩
    · simp [fitL, fldK, flag_fit, time_fits (v := P) (by omega), time_fits (v := f) (by omega), time_fits (v := min (T - f) P) (by omega)]; decide
    · have e2 : tmL [1, P, flagN (decide (P ≤ T - f)), min (T - f) P, f, 1] = ⟨true, P, decide (P ≤ T - f), min (T - f) P, f, true⟩ := by
        unfold tmL; cases decide (P ≤ T - f) <;> simp [flagN]
      unfold stepL
      rw [if_pos rfl, e2]
      simp only [tonT, Tm.ls, onS, if_true, gone_of (a := V) (b := f) (by omega), flag1]
theorem lt_not (a b : Int) : decide (a < b) = !decide (b ≤ a) := by
  by_cases h : a < b
  · rw [decide_eq_true h, decide_eq_false (by omega)]; rfl
  · rw [decide_eq_false h, decide_eq_true (by omega)]; rfl
theorem off_step {st : Bool} {P f T V : Int} (h : Tms st P f T V) : stepE 2 (offS st P f T) V = 0 ∧ stepL 2 (offS st P f T) V = offS true P f V := by
  obtain ⟨p0, p1, f0, tv, v1, ft, fv, no⟩ := h
  cases st
  · obtain rfl := no rfl
    have e : offS false P V T = [0, P, 1, 0, 0, 0] := rfl
    rw [e]
    refine ⟨stepE_zero.2 ⟨by omega, rfl, ?_, now_ok (by omega)⟩, ?_⟩
    · simp [fitL, fldK, time_fits (v := P) (by omega)]; decide
    · have e2 : tmL [0, P, 1, 0, 0, 0] = ⟨false, P, true, 0, 0, false⟩ := by simp [tmL]
      unfold stepL
      rw [if_neg (by decide), if_pos rfl, e2]
      simp only [tofT, Tm.ls, offS, if_true, if_false, Bool.false_eq_true, gone_of (a := V) (b := V) (by omega), flag0, lt_not]
  · have ft := ft rfl
    have e : offS true P f T = [0, P, flagN (decide (T - f < P)), min (T - f) P, f, flagN (decide (T - f < P))] := rfl
    rw [e]
    refine ⟨stepE_zero.2 ⟨by omega, rfl, ?_, now_ok (by omega)⟩, ?_⟩
    · simp [fitL, fldK, flag_fit, time_fits (v := P) (by omega), time_fits (v := f) (by omega), time_fits (v := min (T - f) P) (by omega)]; decide
    · have e2 : tmL [0, P, flagN (decide (T - f < P)), min (T - f) P, f, flagN (decide (T - f < P))] = ⟨false, P, decide (T - f < P), min (T - f) P, f, decide (T - f < P)⟩ := by
        unfold tmL; cases decide (T - f < P) <;> simp [flagN]
      unfold stepL
      rw [if_neg (by decide), if_pos rfl, e2]
      by_cases hd : T - f < P
      · rw [decide_eq_true hd]
        simp only [tofT, Tm.ls, offS, if_true, if_false, Bool.false_eq_true, gone_of (a := V) (b := f) (by omega), flag0, lt_not]
      · have hv : ¬ V - f < P := by omega
        have hm : min (T - f) P = min (V - f) P := by omega
        rw [decide_eq_false hd, hm]
        simp only [tofT, Tm.ls, offS, if_true, if_false, Bool.false_eq_true, flag0, decide_eq_false hv]
theorem pu_step {st : Bool} {P f T V S : Int} (h : Tms st P f T V) (hS : 0 ≤ S ∧ S ≤ T) (hf : 0 < P → st = true → S = f) : ∃ S', stepE 3 (puS st P f T S) V = 0 ∧ stepL 3 (puS st P f T S) V = puS true P f V S' ∧ (0 ≤ S' ∧ S' ≤ V) ∧ (0 < P → S' = f) := by
  obtain ⟨p0, p1, f0, tv, v1, ft, fv, no⟩ := h
  cases st
  · obtain rfl := no rfl
    have e : puS false P V T S = [1, P, 0, 0, 0, 0] := rfl
    rw [e]
    refine ⟨V, stepE_zero.2 ⟨by omega, rfl, ?_, now_ok (by omega)⟩, ?_, by omega, fun _ => rfl⟩
    · simp [fitL, fldK, time_fits (v := P) (by omega)]; decide
    · have e2 : tmL [1, P, 0, 0, 0, 0] = ⟨true, P, false, 0, 0, false⟩ := by simp [tmL]
      unfold stepL
      rw [if_neg (by decide), if_neg (by decide), if_pos rfl, e2]
      have e3 : tpA V ⟨true, P, false, 0, 0, false⟩ = ⟨true, P, false, 0, V, true⟩ := rfl
      have e4 : tpB V ⟨true, P, false, 0, V, true⟩ = ⟨true, P, !decide (P ≤ goneN V V), min (goneN V V) P, V, !decide (P ≤ goneN V V)⟩ := rfl
      unfold tpT
      rw [e3, e4, gone_of (a := V) (b := V) (by omega)]
      simp only [tpC, Bool.not_true, Bool.and_false, Bool.false_eq_true, if_false, Tm.ls, puS, if_true, flag1, lt_not]
  · have ft := ft rfl
    have e : puS true P f T S = [1, P, flagN (decide (T - f < P)), min (T - f) P, S, flagN (decide (T - f < P))] := rfl
    rw [e]
    have e2 : tmL [1, P, flagN (decide (T - f < P)), min (T - f) P, S, flagN (decide (T - f < P))] = ⟨true, P, decide (T - f < P), min (T - f) P, S, decide (T - f < P)⟩ := by
      unfold tmL; cases decide (T - f < P) <;> simp [flagN]
    have fit : fitL (fldK 3) [1, P, flagN (decide (T - f < P)), min (T - f) P, S, flagN (decide (T - f < P))] = true := by
      simp [fitL, fldK, flag_fit, time_fits (v := P) (by omega), time_fits (v := S) (by omega), time_fits (v := min (T - f) P) (by omega)]; decide
    have eL : stepL 3 [1, P, flagN (decide (T - f < P)), min (T - f) P, S, flagN (decide (T - f < P))] V = (tpT V ⟨true, P, decide (T - f < P), min (T - f) P, S, decide (T - f < P)⟩).ls := by
      unfold stepL
      rw [if_neg (by decide), if_neg (by decide), if_pos rfl, e2]
    rw [eL]
    by_cases hd : T - f < P
    · obtain rfl := hf (by omega) rfl
      refine ⟨S, stepE_zero.2 ⟨by omega, rfl, fit, now_ok (by omega)⟩, ?_, by omega, fun _ => rfl⟩
      rw [decide_eq_true hd]
      have e3 : tpA V ⟨true, P, true, min (T - S) P, S, true⟩ = ⟨true, P, true, min (T - S) P, S, true⟩ := rfl
      have e4 : tpB V ⟨true, P, true, min (T - S) P, S, true⟩ = ⟨true, P, !decide (P ≤ goneN V S), min (goneN V S) P, S, !decide (P ≤ goneN V S)⟩ := rfl
      unfold tpT
      rw [e3, e4, gone_of (a := V) (b := S) (by omega)]
      simp only [tpC, Bool.not_true, Bool.and_false, Bool.false_eq_true, if_false, Tm.ls, puS, if_true, flag1, lt_not]
    · have hv : ¬ V - f < P := by omega
      have hm : min (T - f) P = P := by omega
      have hm2 : min (V - f) P = P := by omega
      by_cases hp : 0 < P
      · obtain rfl := hf hp rfl
        refine ⟨S, stepE_zero.2 ⟨by omega, rfl, fit, now_ok (by omega)⟩, ?_, by omega, fun _ => rfl⟩
        rw [decide_eq_false hd, hm]
        have hz : (P == 0) = false := by rw [beq_eq_false_iff_ne]; omega
        have e3 : tpA V ⟨true, P, false, P, S, false⟩ = ⟨true, P, false, P, S, false⟩ := by unfold tpA; simp only [hz]; rfl
        unfold tpT
        rw [e3]
        have e4 : tpC (tpB V ⟨true, P, false, P, S, false⟩) = ⟨true, P, false, P, S, false⟩ := rfl
        rw [e4]
        simp only [Tm.ls, puS, if_true, flag1, flag0, decide_eq_false hv, hm2]
      · obtain rfl : P = 0 := by omega
        refine ⟨V, stepE_zero.2 ⟨by omega, rfl, fit, now_ok (by omega)⟩, ?_, by omega, fun h => absurd h (by omega)⟩
        rw [decide_eq_false hd, hm]
        have e3 : tpA V ⟨true, 0, false, 0, S, false⟩ = ⟨true, 0, false, 0, V, true⟩ := rfl
        have e4 : tpB V ⟨true, 0, false, 0, V, true⟩ = ⟨true, 0, !decide (0 ≤ goneN V V), min (goneN V V) 0, V, !decide (0 ≤ goneN V V)⟩ := rfl
        unfold tpT
        rw [e3, e4, gone_of (a := V) (b := V) (by omega)]
        have h0 : decide ((0 : Int) ≤ V - V) = true := decide_eq_true (by omega)
        have h1 : min (V - V) 0 = (0 : Int) := by omega
        simp only [h0, h1, tpC, Bool.not_true, Bool.not_false, Bool.and_false, Bool.false_eq_true, if_false, Tm.ls, puS, if_true, flag1, flag0, decide_eq_false hv, hm2]
end Go.Proofs.YthifgfhgkdjkfaaDoor
