/- The contract of the document's based. -/
import Derived.Test.YtfcnbiikjopajaaDoorRDigW
import Derived.Test.YtfcnbiikjopajaaDoorMgF
namespace Go.Proofs.YtfcnbiikjopajaaDoor
open Go.RowKit
def headP : Nat → Bs
  | 0 => [50, 35]
  | 1 => [56, 35]
  | _ => [49, 54, 35]
def baseP : Nat → Nat
  | 0 => 2
  | 1 => 8
  | _ => 16
theorem headP_len (i : Nat) : (headP i).length ≤ 3 := by
  match i with
  | 0 => decide | 1 => decide | _ + 2 => show 3 ≤ 3; decide
theorem baseP_le (i : Nat) : 2 ≤ baseP i ∧ baseP i ≤ 16 := by
  match i with
  | 0 => decide | 1 => decide | _ + 2 => exact ⟨by show 2 ≤ 16; decide, Nat.le_refl _⟩
theorem rbased_at {m : Bs} {i : Nat} (hi : i < 3) (hno : ∀ j, j < i → (headP j).isPrefixOf m = false) (h : (headP i).isPrefixOf m = true) : based m = (digs (baseP i) 4294967295 false 0 (m.drop (headP i).length)).map fun x => (low32 x.1, x.2) := by
  have no := fun j hj => by have := hno j hj; rwa [pre_take, decide_eq_false_iff_not] at this
  rw [pre_take, decide_eq_true_iff] at h
  match i, hi with
  | 0, _ => rw [based, if_pos (show m.take 2 = [50, 35] from h)]; rfl
  | 1, _ => rw [based, if_neg (show ¬ m.take 2 = [50, 35] from no 0 (by omega)), if_pos (show m.take 2 = [56, 35] from h)]; rfl
  | 2, _ => rw [based, if_neg (show ¬ m.take 2 = [50, 35] from no 0 (by omega)), if_neg (show ¬ m.take 2 = [56, 35] from no 1 (by omega)), if_pos (show m.take 3 = [49, 54, 35] from h)]; rfl
theorem rbased_no {m : Bs} (hno : ∀ j, j < 3 → (headP j).isPrefixOf m = false) : based m = (digs 10 2147483648 false 0 m).map fun x => ((x.1 : Int), x.2) := by
  have no := fun j hj => by have := hno j hj; rwa [pre_take, decide_eq_false_iff_not] at this
  rw [based, if_neg (show ¬ m.take 2 = [50, 35] from no 0 (by omega)), if_neg (show ¬ m.take 2 = [56, 35] from no 1 (by omega)), if_neg (show ¬ m.take 3 = [49, 54, 35] from no 2 (by omega))]
/-- based's answer -/
def basV (L : Nat) : Option (Int × Bs) → Value
  | none => .tuple #[.int .i64 0, .int .i64 0, .bool false]
  | some (n, r) => .tuple #[.int .i64 n, .int .i64 ((L - r.length : Nat) : Int), .bool true]
theorem bas_dig (L : Nat) (o : Option (Nat × Bs)) : basV L (o.map fun x => ((x.1 : Int), x.2)) = digV L o := by
  cases o with
  | none => rfl
  | some x => rfl
abbrev HeadT : Obj := .cells #[.string ⟨#[50, 35]⟩, .string ⟨#[56, 35]⟩, .string ⟨#[49, 54, 35]⟩] 9
abbrev BaseT : Obj := .cells #[.int .i64 2, .int .i64 8, .int .i64 16] 3
theorem head_cell (w : World) (i : Nat) (hi : i < 3) : ((w.alloc HeadT).alloc BaseT).cell? ⟨w.heap.size, i, none⟩ = some (.string ⟨(headP i).toArray⟩) := by
  rw [World.cell?_alloc_lt _ _ _ (by simp)]
  match i, hi with
  | 0, _ => simp; rfl
  | 1, _ => simp; rfl
  | 2, _ => simp; rfl
theorem base_cell (w : World) (i : Nat) (hi : i < 3) : ((w.alloc HeadT).alloc BaseT).cell? ⟨w.heap.size + 1, i, none⟩ = some (.int .i64 ((baseP i : Nat) : Int)) := by
  match i, hi with
  | 0, _ => simp; rfl
  | 1, _ => simp; rfl
  | 2, _ => simp; rfl
set_option maxRecDepth 100000 in
set_option maxHeartbeats 3200000 in
theorem rbased_any (l : Bs) (k : Nat) (hl : l.length ≤ 65536) (hk : k ≤ l.length) (w : World) : Calls Tryd.prog 48 #[.string ⟨l.toArray⟩, .int .i64 (k : Int)] w fun e w' => e = .returned (basV l.length (based (l.drop k))) ∧ Below w.heap.size w w' := by
  have CB : Hid (∀ (p : Bs), p.length ≤ 8 → ∀ W, Calls Tryd.prog 43 #[.string ⟨l.toArray⟩, .int .i64 (k : Int), .string ⟨p.toArray⟩] W fun e w' => e = .returned (.bool (p.isPrefixOf (l.drop k))) ∧ w' = W) := fun p hp W => begins_any l p k hl hp hk W
  have CD : Hid (∀ (j base most : Nat), j ≤ l.length → 2 ≤ base → base ≤ 16 → most ≤ 4294967295 → ∀ W, Calls Tryd.prog 65 #[.string ⟨l.toArray⟩, .int .i64 (j : Int), .int .i64 (base : Int), .int .i64 (most : Int)] W fun e w' => e = .returned (digV l.length (digs base most false 0 (l.drop j))) ∧ w' = W) := fun j base most h1 h2 h3 h4 W => rdigits_any l j base most hl h1 h2 h3 h4 W
  generalize (⟨l.toArray⟩ : ByteArray) = s at *
  have HC := hide (head_cell w)
  have HC2 := hide (base_cell w)
  have HB := hide ((((Below.refl w.heap.size w).alloc (Nat.le_refl _) HeadT).alloc (by rw [World.size_alloc]; omega) BaseT))
  go_enter Tryd.func48, Tryd.ntmps48
  go_wp2_with fail
  generalize (w.alloc (.cells #[.string ⟨#[50, 35]⟩, .string ⟨#[56, 35]⟩, .string ⟨#[49, 54, 35]⟩] 9)).alloc (.cells #[.int .i64 2, .int .i64 8, .int .i64 16] 3) = W0 at *
  go_loopw [9] (fun v wr => ∃ (i : Nat), i ≤ 3 ∧ v = .int .i64 (i : Int) ∧ wr = W0 ∧ Hid (∀ j, j < i → (headP j).isPrefixOf (l.drop k) = false)) (fun v _ => 3 - (intOf v).toNat)
  case atStart => exact ⟨0, by omega, rfl, rfl, fun j hj => absurd hj (Nat.not_lt_zero _)⟩
  case round =>
    obtain ⟨i, hi, rfl, rfl, hh⟩ := hrel
    have i0 : (0 : Int) ≤ (i : Int) := by omega
    by_cases h3 : i < 3
    · have i1 : (i : Int) < 3 := by omega
      have hc := HC.out i h3
      have hc2 := HC2.out i h3
      have cb := CB.out (headP i) (by have := headP_len i; omega)
      have hls := list_size (headP i)
      cases hp : (headP i).isPrefixOf (l.drop k) with
      | false =>
        rw [hp] at cb
        have HN : Hid (∀ j, j < i + 1 → (headP j).isPrefixOf (l.drop k) = false) := fun j hj => by
          by_cases hji : j = i
          · rw [hji]; exact hp
          · exact hh.out j (by omega)
        generalize (⟨(headP i).toArray⟩ : ByteArray) = t at *
        clear hh CD CB HC HC2 hp hc2
        go_wp2_with fail
        refine (cb _).mono ?_
        rintro e w1 ⟨rfl, rfl⟩
        clear cb
        go_wp2
        go_roundw
        case rel => exact ⟨i + 1, by omega, by go_num, trivial, HN.out⟩
        case measure => simp only [intOf]; omega
      | true =>
        rw [hp] at cb
        have hkl : k + (headP i).length ≤ l.length := by
          rw [pre_take, decide_eq_true_iff] at hp
          have := congrArg List.length hp
          rw [List.length_take, List.length_drop] at this
          omega
        have hb := rbased_at h3 hh.out hp
        rw [List.drop_drop] at hb
        have cd := CD.out (k + (headP i).length) (baseP i) 4294967295 hkl (baseP_le i).1 (baseP_le i).2 (by decide)
        have k1 : (k : Int) ≤ 65536 := by omega
        obtain ⟨q0, q1, q2, hq, HR⟩ : ∃ q0 q1 q2, digV l.length (digs (baseP i) 4294967295 false 0 (l.drop (k + (headP i).length))) = .tuple #[.int .i64 q0, .int .i64 q1, .bool q2] ∧ Hid ((0 : Int) ≤ q0 ∧ q0 ≤ 4294967295 ∧ basV l.length (based (l.drop k)) = .tuple #[.int .i64 (if q2 = true ∧ 2147483648 ≤ q0 then q0 - 4294967296 else q0), .int .i64 q1, .bool q2]) := by
          rw [hb]
          cases hd : digs (baseP i) 4294967295 false 0 (l.drop (k + (headP i).length)) with
          | none => exact ⟨0, 0, false, rfl, by decide, by decide, rfl⟩
          | some x =>
            obtain ⟨n, r⟩ := x
            have hn := digs_le hd (by decide)
            refine ⟨_, _, _, rfl, by omega, by omega, ?_⟩
            simp only [Option.map_some, low32, basV, true_and]
            by_cases h : 2147483648 ≤ n
            · rw [if_pos h, if_pos (by omega)]
            · rw [if_neg h, if_neg (by omega)]
        rw [hq] at cd
        have r0 := HR.out.1
        have r1 := HR.out.2.1
        clear hh CD CB HC HC2 hp hb hkl hq h3
        have s1 : ((⟨(headP i).toArray⟩ : ByteArray).size : Int) ≤ 3 := by rw [hls]; have := headP_len i; omega
        rw [show ((4294967295 : Nat) : Int) = 4294967295 from rfl, show ((k + (headP i).length : Nat) : Int) = (k : Int) + ((⟨(headP i).toArray⟩ : ByteArray).size : Int) from by rw [hls]; omega] at cd
        have bp0 : (0 : Int) ≤ ((baseP i : Nat) : Int) := by omega
        generalize (⟨(headP i).toArray⟩ : ByteArray) = t at *
        generalize ((baseP i : Nat) : Int) = bp at *
        clear hls
        go_wp2_with fail
        refine (cb _).mono ?_
        rintro e w1 ⟨rfl, hw1⟩
        subst hw1
        clear cb
        go_wp2_with fail
        go_quiet (first | (go_at_call 65; refine Calls.quiet_of_same (cd _)))
        clear cd hc hc2
        cases q2 with
        | false =>
          have HR2 : Hid (basV l.length (based (l.drop k)) = .tuple #[.int .i64 q0, .int .i64 q1, .bool false]) := by show _ = _; rw [HR.out.2.2, if_neg (fun h => by cases h.1)]
          clear HR
          go_wp2
          go_ret3
          exact ⟨by rw [HR2.out]; rfl, below_drawn HB.out _⟩
        | true =>
          by_cases hbig : (2147483648 : Int) ≤ q0
          · have HR2 : Hid (basV l.length (based (l.drop k)) = .tuple #[.int .i64 (q0 - 4294967296), .int .i64 q1, .bool true]) := by show _ = _; rw [HR.out.2.2, if_pos ⟨rfl, hbig⟩]
            clear HR
            go_wp2
            go_ret3
            exact ⟨by rw [HR2.out]; rfl, below_drawn HB.out _⟩
          · have HR2 : Hid (basV l.length (based (l.drop k)) = .tuple #[.int .i64 q0, .int .i64 q1, .bool true]) := by show _ = _; rw [HR.out.2.2, if_neg (fun h => hbig h.2)]
            clear HR
            go_wp2
            go_ret3
            exact ⟨by rw [HR2.out]; rfl, below_drawn HB.out _⟩
    · obtain rfl : i = 3 := by omega
      have hb := rbased_no hh.out
      have cd := CD.out k 10 2147483648 hk (by decide) (by decide) (by decide)
      rw [show ((2147483648 : Nat) : Int) = 2147483648 from rfl, show ((10 : Nat) : Int) = 10 from rfl] at cd
      have HR : Hid (basV l.length (based (l.drop k)) = digV l.length (digs 10 2147483648 false 0 (l.drop k))) := by show _ = _; rw [hb, bas_dig]
      clear hh CD CB HC HC2 hb h3
      obtain ⟨q0, q1, q2, hq⟩ : ∃ q0 q1 q2, digV l.length (digs 10 2147483648 false 0 (l.drop k)) = .tuple #[q0, q1, q2] := by
        cases digs 10 2147483648 false 0 (l.drop k) with
        | none => exact ⟨_, _, _, rfl⟩
        | some x => exact ⟨_, _, _, rfl⟩
      rw [hq] at cd HR
      clear hq
      go_wp2_with fail
      refine (cd _).mono ?_
      rintro e w1 ⟨rfl, rfl⟩
      clear cd
      go_wp2
      go_ret3
      exact ⟨by rw [HR.out]; rfl, HB.out⟩
end Go.Proofs.YtfcnbiikjopajaaDoor
