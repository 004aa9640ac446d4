/- The contracts of quad.number, isPlace, Place, Unit, Lines, Turn, Step. | Slices of ints that read as a list; the contracts of Count, the program's and the document's. | Slices of ints among the arguments, opened. -/
import Derived.Test.YthifgfhgkdjkfabDoorMg1
import Derived.OwnWalk
import Derived.Deep.DeepAppendWide
import Derived.Deep.QuietTactic
import Derived.BigQuiet
import Derived.Deep.DeepMust
import Derived.Deep.Slices
import Derived.LaidLaws
import Derived.SizedLaws
namespace Go.Proofs.YthifgfhgkdjkfabDoor
open Go.RowKit
attribute [local go_sem] run_store_complex run_store_float unary_neg_float
theorem crc_below (w : World) : Below w.heap.size w (w.alloc (.cells crc 141)) := (Below.refl _ _).alloc (Nat.le_refl _) _
theorem index_cell {ty e : TypeId} {n : Nat} (hu : Tryd.prog.underlying ty = some (.array n e)) (ha : ∀ W, (isAgg e).run Tryd.prog W = .ok false W) (hz : ∀ W, (sizeOf e).run Tryd.prog W = .ok 1 W) (cs : Array Value) (k : Nat) (hk : k < n) (v : Value) (hv : cs[k]? = some v) (W : World) :
    (Instr.index ty (.agg cs) (.int .i64 (k : Int))).run Tryd.prog W = .ok v W := by
  simp only [Instr.index, asIntOf, Sem.run_bind, Sem.run_pure, Result.andThen_ok, run_underlying hu]
  rw [if_pos ⟨by omega, by omega⟩]
  simp only [Sem.run_bind, hz, Result.andThen_ok, part, ha, Bool.false_eq_true, if_false, Int.toNat_natCast, Nat.mul_one, hv, Sem.run_pure]
theorem crc_at (k : Nat) (hk : k < 4) (v : Value) (hv : crc[k]? = some v) (W : World) : (Instr.index 141 (.agg crc) (.int .i64 (k : Int))).run Tryd.prog W = .ok v W :=
  index_cell Tryd.underlying141 (fun _ => Tryd.isAgg136 _) (fun _ => Tryd.sizeOf136 _) crc k hk v hv W
theorem crc_0 (W : World) : (Instr.index 141 (.agg #[.complex .f64 4607182418800017408 0, .complex .f64 0 4607182418800017408, .complex .f64 13830554455654793216 0, .complex .f64 0 13830554455654793216]) (.int .i64 0)).run Tryd.prog W = .ok (.complex .f64 4607182418800017408 0) W := crc_at 0 (by decide) _ rfl W
theorem crc_1 (W : World) : (Instr.index 141 (.agg #[.complex .f64 4607182418800017408 0, .complex .f64 0 4607182418800017408, .complex .f64 13830554455654793216 0, .complex .f64 0 13830554455654793216]) (.int .i64 1)).run Tryd.prog W = .ok (.complex .f64 0 4607182418800017408) W := crc_at 1 (by decide) _ rfl W
theorem crc_2 (W : World) : (Instr.index 141 (.agg #[.complex .f64 4607182418800017408 0, .complex .f64 0 4607182418800017408, .complex .f64 13830554455654793216 0, .complex .f64 0 13830554455654793216]) (.int .i64 2)).run Tryd.prog W = .ok (.complex .f64 13830554455654793216 0) W := crc_at 2 (by decide) _ rfl W
theorem crc_3 (W : World) : (Instr.index 141 (.agg #[.complex .f64 4607182418800017408 0, .complex .f64 0 4607182418800017408, .complex .f64 13830554455654793216 0, .complex .f64 0 13830554455654793216]) (.int .i64 3)).run Tryd.prog W = .ok (.complex .f64 0 13830554455654793216) W := crc_at 3 (by decide) _ rfl W
/-- what number answers -/
def numV (a b : Nat) : Value := match plc a b with
  | some n => .tuple #[.int .i64 ((n : Nat) : Int), .bool true]
  | none => .tuple #[.int .i64 0, .bool false]
set_option maxRecDepth 100000 in
set_option maxHeartbeats 800000 in
theorem number_any (a b : Nat) (ha : a < 18446744073709551616) (hb : b < 18446744073709551616) (w : World) : Calls Tryd.prog 80 #[.complex .f64 a b] w fun e w' => e = .returned (numV a b) ∧ Below w.heap.size w w' := by
  have HB := hide (crc_below w)
  have q0 := eq_0 ha hb
  have q1 := eq_1 ha hb
  have q2 := eq_2 ha hb
  have q3 := eq_3 ha hb
  have m1 := fun W => circle_any W
  have hlt : ∀ n, plc a b = some n → n < 4 := fun n h => plc_lt h
  have HLT := hide hlt
  clear ha hb hlt
  have HV : ∀ n, plc a b = some n → numV a b = .tuple #[.int .i64 ((n : Nat) : Int), .bool true] := fun n h => by unfold numV; rw [h]
  have HN : (∀ n, n < 4 → plc a b ≠ some n) → numV a b = .tuple #[.int .i64 0, .bool false] := fun h => by
    unfold numV
    cases hp : plc a b with
    | none => rfl
    | some n => exact absurd hp (h n (HLT.out n hp))
  generalize numV a b = V at *
  generalize plc a b = pp at *
  have HV := hide HV
  have HN := hide HN
  go_enter Tryd.func80, Tryd.ntmps80
  go_wp2_with (first | (go_at_call 84; refine (m1 _).mono ?_; rintro e w1 ⟨rfl, rfl⟩))
  generalize w.alloc (.cells crc 141) = w1 at *
  go_loopw [4, 5, 7] (fun _ _ i wr => ∃ k : Nat, k ≤ 4 ∧ i = .int .i64 (k : Int) ∧ Hid ((∀ j, j < k → pp ≠ some j) ∧ wr = w1)) (fun _ _ i _ => 4 - (intOf i).toNat)
  case atStart => exact ⟨0, by omega, rfl, fun j hj => absurd hj (Nat.not_lt_zero _), rfl⟩
  case round =>
    obtain ⟨k, hk, rfl, hh⟩ := hrel
    obtain ⟨hj, rfl⟩ := hh.out
    have HJ := hide hj
    clear hh hj
    obtain rfl | rfl | rfl | rfl | rfl : k = 0 ∨ k = 1 ∨ k = 2 ∨ k = 3 ∨ k = 4 := by omega
    · have x1 := crc_0
      by_cases h : pp = some 0
      · simp only [h] at q0
        have HE : Hid (V = .tuple #[.int .i64 0, .bool true]) := HV.out 0 h
        go_wp2
        go_ret2
        exact ⟨by rw [HE.out]; rfl, HB.out⟩
      · simp only [h] at q0
        go_wp2
        refine ⟨⟨1, by omega, rfl, fun j hj => (by
            rcases (show j < 0 ∨ j = 0 by omega) with h1 | rfl
            · exact HJ.out j h1
            · exact h), trivial⟩, by decide⟩
    · have x1 := crc_1
      by_cases h : pp = some 1
      · simp only [h] at q1
        have HE : Hid (V = .tuple #[.int .i64 1, .bool true]) := HV.out 1 h
        go_wp2
        go_ret2
        exact ⟨by rw [HE.out]; rfl, HB.out⟩
      · simp only [h] at q1
        go_wp2
        refine ⟨⟨2, by omega, rfl, fun j hj => (by
            rcases (show j < 1 ∨ j = 1 by omega) with h1 | rfl
            · exact HJ.out j h1
            · exact h), trivial⟩, by decide⟩
    · have x1 := crc_2
      by_cases h : pp = some 2
      · simp only [h] at q2
        have HE : Hid (V = .tuple #[.int .i64 2, .bool true]) := HV.out 2 h
        go_wp2
        go_ret2
        exact ⟨by rw [HE.out]; rfl, HB.out⟩
      · simp only [h] at q2
        go_wp2
        refine ⟨⟨3, by omega, rfl, fun j hj => (by
            rcases (show j < 2 ∨ j = 2 by omega) with h1 | rfl
            · exact HJ.out j h1
            · exact h), trivial⟩, by decide⟩
    · have x1 := crc_3
      by_cases h : pp = some 3
      · simp only [h] at q3
        have HE : Hid (V = .tuple #[.int .i64 3, .bool true]) := HV.out 3 h
        go_wp2
        go_ret2
        exact ⟨by rw [HE.out]; rfl, HB.out⟩
      · simp only [h] at q3
        go_wp2
        refine ⟨⟨4, by omega, rfl, fun j hj => (by
            rcases (show j < 3 ∨ j = 3 by omega) with h1 | rfl
            · exact HJ.out j h1
            · exact h), trivial⟩, by decide⟩
    · have HE : Hid (V = .tuple #[.int .i64 0, .bool false]) := HN.out HJ.out
      go_wp2
      go_ret2
      exact ⟨by rw [HE.out]; rfl, HB.out⟩
/-- the words of a place -/
def uRe (n : Nat) : Nat := match n with | 0 => 4607182418800017408 | 2 => 13830554455654793216 | _ => 0
def uIm (n : Nat) : Nat := match n with | 1 => 4607182418800017408 | 3 => 13830554455654793216 | _ => 0
theorem u_plc {n : Nat} (h : n < 4) : plc (uRe n) (uIm n) = some n := by
  obtain rfl | rfl | rfl | rfl : n = 0 ∨ n = 1 ∨ n = 2 ∨ n = 3 := by omega
  all_goals rfl
theorem two_below (w : World) (o1 o2 : Obj) : Below w.heap.size w ((w.alloc o1).alloc o2) := ((Below.refl _ _).alloc (Nat.le_refl _) _).alloc (by simp) _
set_option maxRecDepth 100000 in
set_option maxHeartbeats 800000 in
theorem unit_ok (n : Nat) (hn : n < 4) (w : World) : Calls Tryd.prog 82 #[.int .i64 (n : Int)] w fun e w' => e = .returned (.tuple #[.complex .f64 (uRe n) (uIm n), .int .i64 0]) ∧ Below w.heap.size w w' := by
  have m1 := fun W => circle_any W
  have HB := hide (two_below w)
  obtain rfl | rfl | rfl | rfl : n = 0 ∨ n = 1 ∨ n = 2 ∨ n = 3 := by omega
  all_goals
    clear hn
    go_enter Tryd.func82, Tryd.ntmps82
    go_wp2_with (first | (go_at_call 84; refine (m1 _).mono ?_; rintro e w1 ⟨rfl, rfl⟩))
    go_ret2
    exact ⟨rfl, HB.out _ _⟩
set_option maxRecDepth 100000 in
set_option maxHeartbeats 800000 in
theorem unit_no (n : Int) (hn : isP n = false) (w : World) : Calls Tryd.prog 82 #[.int .i64 n] w fun e w' => e = .returned (.tuple #[.complex .f64 0 0, .int .i64 1]) ∧ Below w.heap.size w w' := by
  have m1 := fun W => circle_any W
  have HB := hide (two_below w)
  have hn : ¬ (0 ≤ n ∧ n ≤ 3) := fun h => by rw [(isP_iff n).2 h] at hn; cases hn
  by_cases h0 : n < 0
  · clear hn
    go_enter Tryd.func82, Tryd.ntmps82
    go_wp2_with (first | (go_at_call 84; refine (m1 _).mono ?_; rintro e w1 ⟨rfl, rfl⟩))
    go_ret2
    exact ⟨rfl, HB.out _ _⟩
  · have h4 : 4 ≤ n := by omega
    clear hn
    go_enter Tryd.func82, Tryd.ntmps82
    go_wp2_with (first | (go_at_call 84; refine (m1 _).mono ?_; rintro e w1 ⟨rfl, rfl⟩))
    go_ret2
    exact ⟨rfl, HB.out _ _⟩
set_option maxHeartbeats 400000 in
theorem isPlace_any (a b : Nat) (ha : a < 18446744073709551616) (hb : b < 18446744073709551616) (w : World) : Calls Tryd.prog 85 #[.complex .f64 a b] w fun e w' => e = .returned (.bool (plc a b).isSome) ∧ Below w.heap.size w w' := by
  have m1 := fun W => number_any a b ha hb W
  unfold numV at m1
  clear ha hb
  cases hp : plc a b
  all_goals
    rw [hp] at m1
    simp only at m1
    go_enter Tryd.func85, Tryd.ntmps85
    go_wp2_with (first | (go_at_call 80; refine (m1 _).mono ?_; rintro e w1 ⟨rfl, hb1⟩))
    go_ret
    exact ⟨rfl, hb1⟩
/-- the number of the place of two lines -/
def pn (a b : Bool) : Nat := if a && b then 2 else if a then 1 else if b then 3 else 0
theorem pn_lt (a b : Bool) : pn a b < 4 := by cases a <;> cases b <;> decide
set_option maxHeartbeats 400000 in
theorem place_any (a b : Bool) (w : World) : Calls Tryd.prog 78 #[.bool a, .bool b] w fun e w' => e = .returned (.int .i64 ((pn a b : Nat) : Int)) ∧ Below w.heap.size w w' := by
  have m1 := fun W => placeOf_any a b W
  have m2 : Hid (∀ x y, plc x y = some (pn a b) → ∀ W, Calls Tryd.prog 80 #[.complex .f64 x y] W fun e w' => e = .returned (.tuple #[.int .i64 ((pn a b : Nat) : Int), .bool true]) ∧ Below W.heap.size W w') := fun x y h W => by
    have := number_any x y (plc_wf h).1 (plc_wf h).2 W
    unfold numV at this
    rw [h] at this
    exact this
  go_enter Tryd.func78, Tryd.ntmps78
  go_wp2_with (first | (go_at_call 81; refine (m1 _).mono ?_; rintro e w1 ⟨⟨x, y, rfl, hp⟩, rfl⟩; have HP := hide hp; clear hp) | (go_at_call 80; refine (m2.out _ _ HP.out _).mono ?_; rintro e w2 ⟨rfl, hb2⟩))
  go_ret
  exact ⟨rfl, hb2⟩
/-- the lines of a place -/
def lnA (n : Nat) : Bool := n == 1 || n == 2
def lnB (n : Nat) : Bool := n == 2 || n == 3
theorem stp_jmp (m n : Nat) (h : jmp m n = true) : stp m n = 0 := by
  unfold jmp at h
  have := eq_of_beq h
  unfold stp
  rw [this]; rfl
/-- what Turn answers -/
def turnV (p q : Option Nat) : Int × Int := match p, q with
  | some m, some n => (stp m n, if jmp m n then 110 else 0)
  | _, _ => (0, 1)
set_option maxHeartbeats 800000 in
theorem turn_any (a b c d : Nat) (ha : a < 18446744073709551616) (hb : b < 18446744073709551616) (hc : c < 18446744073709551616) (hd : d < 18446744073709551616) (w : World) : Calls Tryd.prog 83 #[.complex .f64 a b, .complex .f64 c d] w fun e w' => e = .returned (.tuple #[.int .i64 (turnV (plc a b) (plc c d)).1, .int .i64 (turnV (plc a b) (plc c d)).2]) ∧ Below w.heap.size w w' := by
  have m1 := fun W => isPlace_any a b ha hb W
  have m2 := fun W => isPlace_any c d hc hd W
  clear ha hb hc hd
  cases hp : plc a b with
  | none =>
    rw [hp] at m1
    have e : turnV none (plc c d) = (0, 1) := rfl
    rw [e]
    clear e m2
    go_enter Tryd.func83, Tryd.ntmps83
    go_wp2_with (first | (go_at_call 85; (with_reducible refine (m1 _).mono ?_); rintro e w1 ⟨rfl, hb1⟩))
    go_ret2
    exact ⟨rfl, hb1⟩
  | some m =>
    cases hq : plc c d with
    | none =>
      rw [hp] at m1
      rw [hq] at m2
      have e : turnV (some m) none = (0, 1) := rfl
      rw [e]
      clear e hp hq
      go_enter Tryd.func83, Tryd.ntmps83
      go_wp2_with (first | (go_at_call 85; first | ((with_reducible refine (m1 _).mono ?_); rintro e w1 ⟨rfl, hb1⟩) | ((with_reducible refine (m2 _).mono ?_); rintro e w2 ⟨rfl, hb2⟩)))
      go_ret2
      exact ⟨rfl, hb1.trans (hb2.mono hb1.size)⟩
    | some n =>
      have m3 := fun W => between_any a b c d m n hp hq W
      rw [hp] at m1
      rw [hq] at m2
      have e : turnV (some m) (some n) = (stp m n, if jmp m n then 110 else 0) := rfl
      rw [e]
      have hj := stp_jmp m n
      clear e hp hq
      generalize stp m n = S at *
      cases hJ : jmp m n
      · rw [hJ] at m3
        clear hj
        go_enter Tryd.func83, Tryd.ntmps83
        go_wp2_with (first | (go_at_call 85; first | ((with_reducible refine (m1 _).mono ?_); rintro e w1 ⟨rfl, hb1⟩) | ((with_reducible refine (m2 _).mono ?_); rintro e w2 ⟨rfl, hb2⟩)) | (go_at_call 86; refine (m3 _).mono ?_; rintro e w3 ⟨rfl, rfl⟩))
        go_ret2
        exact ⟨rfl, hb1.trans (hb2.mono hb1.size)⟩
      · obtain rfl := hj hJ
        rw [hJ] at m3
        clear hj
        go_enter Tryd.func83, Tryd.ntmps83
        go_wp2_with (first | (go_at_call 85; first | ((with_reducible refine (m1 _).mono ?_); rintro e w1 ⟨rfl, hb1⟩) | ((with_reducible refine (m2 _).mono ?_); rintro e w2 ⟨rfl, hb2⟩)) | (go_at_call 86; refine (m3 _).mono ?_; rintro e w3 ⟨rfl, rfl⟩))
        go_ret2
        exact ⟨rfl, hb1.trans (hb2.mono hb1.size)⟩
set_option maxHeartbeats 800000 in
theorem step_any (m n : Int) (w : World) : Calls Tryd.prog 79 #[.int .i64 m, .int .i64 n] w fun e w' => e = .returned (.tuple #[.int .i64 (stepV m n).1, .int .i64 (stepV m n).2]) ∧ Below w.heap.size w w' := by
  by_cases h : isP m = true
  · obtain ⟨a, ha, rfl⟩ := isP_nat h
    have m1 := fun W => unit_ok a ha W
    by_cases h2 : isP n = true
    · obtain ⟨b, hb, rfl⟩ := isP_nat h2
      have m2 := fun W => unit_ok b hb W
      have p1 := u_plc ha
      have p2 := u_plc hb
      have m3 := fun W => turn_any _ _ _ _ (plc_wf p1).1 (plc_wf p1).2 (plc_wf p2).1 (plc_wf p2).2 W
      rw [p1, p2] at m3
      have e : stepV a b = turnV (some a) (some b) := by unfold stepV turnV; rw [h, h2]; rfl
      rw [e]
      clear e p1 p2 h h2 ha hb
      generalize turnV (some a) (some b) = S at *
      go_enter Tryd.func79, Tryd.ntmps79
      go_wp2_with (first | (go_at_call 82; first | ((with_reducible refine (m1 _).mono ?_); rintro e w1 ⟨rfl, hb1⟩) | ((with_reducible refine (m2 _).mono ?_); rintro e w2 ⟨rfl, hb2⟩)) | (go_at_call 83; refine (m3 _).mono ?_; rintro e w3 ⟨rfl, hb3⟩))
      go_ret2
      exact ⟨rfl, (hb1.trans (hb2.mono hb1.size)).trans (hb3.mono (Nat.le_trans hb1.size hb2.size))⟩
    · have m2 := fun W => unit_no n (Bool.eq_false_iff.2 h2) W
      have e : stepV a n = (0, 1) := by unfold stepV; simp [h2]
      rw [e]
      clear e h h2 ha
      go_enter Tryd.func79, Tryd.ntmps79
      go_wp2_with (first | (go_at_call 82; first | ((with_reducible refine (m1 _).mono ?_); rintro e w1 ⟨rfl, hb1⟩) | ((with_reducible refine (m2 _).mono ?_); rintro e w2 ⟨rfl, hb2⟩)))
      go_ret2
      exact ⟨rfl, hb1.trans (hb2.mono hb1.size)⟩
  · have m1 := fun W => unit_no m (Bool.eq_false_iff.2 h) W
    have e : stepV m n = (0, 1) := by unfold stepV; simp [h]
    rw [e]
    clear e h
    go_enter Tryd.func79, Tryd.ntmps79
    go_wp2_with (first | (go_at_call 82; refine (m1 _).mono ?_; rintro e w1 ⟨rfl, hb1⟩))
    go_ret2
    exact ⟨rfl, hb1⟩
end Go.Proofs.YthifgfhgkdjkfabDoor
namespace Go.Proofs.YthifgfhgkdjkfabDoor
open Go.RowKit
attribute [local go_sem] run_store_complex run_store_float unary_neg_float
def intC (l : List Int) : List Value := l.map fun x => .int .i64 x
theorem intC_length (l : List Int) : (intC l).length = l.length := by rw [intC, List.length_map]
theorem intC_append (a b : List Int) : intC (a ++ b) = intC a ++ intC b := List.map_append
theorem intC_get (l : List Int) (i : Nat) : (intC l)[i]? = (l[i]?).map fun x => .int .i64 x := by rw [intC, List.getElem?_map]
theorem intC_one (l : List Int) : ∀ u ∈ intC l, u.oneCell' = true := fun u hu => by
  obtain ⟨d, _, rfl⟩ := List.mem_map.1 hu; rfl
/-- a slice that reads as a list -/
def ILst (w : World) (v : Value) (l : List Int) : Prop :=
  ∃ a b off cap, v = .slice a l.length cap ∧ (0 < l.length → b < w.heap.size ∧ a = some ⟨b, off, none⟩) ∧ ∀ i x, l[i]? = some x → w.cell? ⟨b, off + i, none⟩ = some (.int .i64 x)
theorem ILst.on {w w' : World} {v : Value} {l : List Int} (h : ILst w v l) (hb : Below w.heap.size w w') : ILst w' v l := by
  obtain ⟨a, b, off, cap, rfl, hA, hI⟩ := h
  refine ⟨a, b, off, cap, rfl, fun h => ⟨Nat.lt_of_lt_of_le (hA h).1 hb.size, (hA h).2⟩, fun i x hx => ?_⟩
  have hlt : b < w.heap.size := (hA (Nat.lt_of_le_of_lt (Nat.zero_le _) (List.getElem?_eq_some_iff.1 hx).1)).1
  exact (hb.cell (p := ⟨b, off + i, none⟩) hlt).trans (hI i x hx)
theorem ILst.nil (w : World) (c : Nat) : ILst w (.slice none 0 c) [] := ⟨none, 0, 0, c, rfl, fun h => absurd h (Nat.lt_irrefl 0), fun i x hx => by cases hx⟩
theorem ILst.of_owns {w : World} {base : Nat} {v : Value} {l : List Int} (h : w.ownsRow base 3 1 v l.length (intC l)) : ILst w v l := by
  rcases h.2 with ⟨hv, h0⟩ | ⟨g, cap, cur, hv, hb, hg, hn, hm, hc, ht⟩
  · obtain rfl := List.eq_nil_of_length_eq_zero h0
    subst hv
    exact ILst.nil w 0
  · subst hv
    refine ⟨_, g, 0, cap, rfl, fun _ => ⟨?_, rfl⟩, fun i x hx => ?_⟩
    · exact (Array.getElem?_eq_some_iff.1 hg).1
    · have hi : i < l.length := (List.getElem?_eq_some_iff.1 hx).1
      rw [Nat.zero_add, h.cellAt i (by omega), intC_get, hx]; rfl
theorem ILst.shape {w : World} {v : Value} {l : List Int} (h : ILst w v l) : ∃ a cap, v = .slice a l.length cap := by
  obtain ⟨a, b, off, cap, rfl, _⟩ := h
  exact ⟨a, cap, rfl⟩
/-- the places of a list, and the sum of the steps between the first k of them, and how often it jumped -/
def gt (l : List Int) (k : Nat) : Nat := (l.getD k 0).toNat
def sS (l : List Int) : Nat → Int
  | 0 => 0
  | 1 => 0
  | k + 2 => sS l (k + 1) + stp (gt l k) (gt l (k + 1))
def sJ (l : List Int) : Nat → Nat
  | 0 => 0
  | 1 => 0
  | k + 2 => sJ l (k + 1) + (if jmp (gt l k) (gt l (k + 1)) then 1 else 0)
theorem stp_in (m n : Nat) : -1 ≤ stp m n ∧ stp m n ≤ 1 := by unfold stp; repeat' split
                                                              all_goals omega
theorem sS_in (l : List Int) : ∀ k : Nat, -(k : Int) ≤ sS l k ∧ sS l k ≤ (k : Int)
  | 0 => by rw [sS]; omega
  | 1 => by rw [sS]; omega
  | k + 2 => by
    have h := sS_in l (k + 1)
    have h2 := stp_in (gt l k) (gt l (k + 1))
    rw [sS]
    omega
theorem sJ_in (l : List Int) : ∀ k : Nat, sJ l k ≤ k
  | 0 => by rw [sJ]; omega
  | 1 => by rw [sJ]; omega
  | k + 2 => by
    have h := sJ_in l (k + 1)
    rw [sJ]
    split <;> omega
theorem gt_at {l : List Int} {k : Nat} {x : Int} (h : l[k]? = some x) : gt l k = x.toNat := by unfold gt; rw [List.getD_eq_getElem?_getD, h]; rfl
/-- what Count answers -/
def cntV (l : List Int) : Int × Int × Int := if l.all isP then (sS l l.length, (sJ l l.length : Int), 0) else (0, 0, 1)
theorem all_take {l : List Int} {k : Nat} {x : Int} (h : (l.take k).all isP = true) (hx : l[k]? = some x) (h2 : isP x = true) : (l.take (k + 1)).all isP = true := by
  obtain ⟨hk, rfl⟩ := List.getElem?_eq_some_iff.1 hx
  rw [List.take_succ_eq_append_getElem hk, List.all_append, h, Bool.true_and, List.all_cons, h2]; rfl
theorem all_no {l : List Int} {k : Nat} {x : Int} (hx : l[k]? = some x) (h2 : isP x = false) : l.all isP = false := by
  rw [List.all_eq_false]
  exact ⟨x, List.mem_of_getElem? hx, by rw [h2]; decide⟩
end Go.Proofs.YthifgfhgkdjkfabDoor
namespace Go.Proofs.YthifgfhgkdjkfabDoor
open Go.ChangeShapes Go.WideShapes Go.ChangeAt Go.RowKit
theorem laidOut : laidOutB Tryd.prog = true := by kernel_rfl
theorem cells3 : Tryd.prog.cellsOf 3 = 1 := by kernel_rfl
theorem bytes3 : Tryd.prog.bytesOf 3 = 8 := by kernel_rfl
theorem bytes2 : Tryd.prog.bytesOf 2 = 8 := by kernel_rfl
theorem add_at (b off j : Nat) : (⟨b, off, none⟩ : Addr).add j = ⟨b, off + j, none⟩ := by unfold Addr.add; split <;> simp_all
theorem wf_int {n : Int} (hw : (Lit.int .i64 n).wf = true) : -9223372036854775808 ≤ n ∧ n ≤ 9223372036854775807 := by
  have h : (decide (IntKind.i64.min ≤ n) && decide (n ≤ IntKind.i64.max)) = true := hw
  rw [Bool.and_eq_true] at h
  exact ⟨of_decide_eq_true h.1, of_decide_eq_true h.2⟩
theorem open_nl {H : Type} {enc : TypeId × Value → H} {W : World} {fuel len cap : Nat} {a : Option Addr} {x : DataW H × List MemPlace} {cs : List Value} (h : DataW.trod enc Tryd.prog W 0 (fun _ => true) true fuel 22 cs = some x) (hcs0 : cs = [.slice a len cap]) :
    ∃ l : List Int, l.length = len ∧ len ≤ cap ∧ ILst W (.slice a len cap) l ∧ (∀ y ∈ l, -9223372036854775808 ≤ y ∧ y ≤ 9223372036854775807) ∧ ((x.1 = .nil ∧ len = 0) ∨ ∃ el sp, x.1 = .slice el sp ∧ el = l.map fun y => .lit (.int .i64 y)) := by
  subst hcs0
  rcases Deep.open_slice Tryd.underlying22 h with ⟨hcs, rfl⟩ | ⟨a', len', cap', m, n, D, Pl, hcs, hb, hl, hm, hmm, rfl, hx⟩
  · simp at hcs
    obtain ⟨rfl, rfl, rfl⟩ := hcs
    exact ⟨[], rfl, Nat.le_refl _, ILst.nil _ _, fun y hy => (by cases hy), .inl ⟨rfl, rfl⟩⟩
  · simp at hcs
    obtain ⟨rfl, rfl, rfl⟩ := hcs
    simp only [if_true] at hmm
    subst hmm
    rw [cells2] at hx
    have each : ∀ i, i < len → ∃ y : Int, W.cell? (a'.add (i * 1)) = some (.int .i64 y) ∧ (-9223372036854775808 ≤ y ∧ y ≤ 9223372036854775807) ∧ D i = .lit (.int .i64 y) := fun i hi => by
      obtain ⟨cs', h1, h2⟩ := hx i (by omega)
      obtain ⟨_, hlen, hcell⟩ := World.cells?_some h1
      obtain ⟨v0, rfl⟩ : ∃ v0, cs' = [v0] := by
        match cs', hlen with
        | [v0], _ => exact ⟨v0, rfl⟩
      obtain ⟨z0, e0, E0, hw⟩ := DataW.trod_int Tryd.underlying2 h2
      have d0 := hcell 0 (by omega)
      rw [Deep.add_add] at d0
      injection e0 with e0
      subst e0
      exact ⟨z0, d0, wf_int hw, congrArg Prod.fst E0⟩
    obtain ⟨f, hf⟩ := @Deep.choose_lt Int ⟨0⟩ _ _ each
    refine ⟨(List.range len).map f, by simp, hl, ?_, ?_, .inr ⟨_, _, rfl, ?_⟩⟩
    · by_cases hl0 : len = 0
      · subst hl0
        exact ⟨some a', 0, 0, m, rfl, fun h => absurd h (Nat.lt_irrefl 0), fun i x hx => by cases hx⟩
      · obtain ⟨b, off, spot⟩ := a'
        have hspot : spot = none := by simpa [Addr.add] using World.cell?_spot (hf 0 (by omega)).1
        subst hspot
        have hbW : b < W.heap.size := World.block_lt_of_cell? W _ (by have := (hf 0 (by omega)).1; rwa [add_at] at this)
        refine ⟨some ⟨b, off, none⟩, b, off, m, by simp, fun _ => ⟨hbW, rfl⟩, fun i y hy => ?_⟩
        have hi : i < len := by have := (List.getElem?_eq_some_iff.1 hy).1; simpa using this
        have hfy : f i = y := by simpa [hi] using hy
        have q0 := (hf i hi).1
        rw [add_at, Nat.mul_one, hfy] at q0
        exact q0
    · intro y hy
      obtain ⟨i, hi, rfl⟩ := List.mem_map.1 hy
      exact (hf i (List.mem_range.1 hi)).2.1
    · rw [List.map_map]
      exact List.map_congr_left fun i hi => (hf i (List.mem_range.1 hi)).2.2
end Go.Proofs.YthifgfhgkdjkfabDoor
