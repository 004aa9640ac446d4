/- The contracts of the document's begins and find, and their plain forms. -/
import Derived.Test.YtfcnbiikjopajaaDoorGapX
namespace Go.Proofs.YtfcnbiikjopajaaDoor
open Go.RowKit
theorem text_eq (a b : Bs) : decide ((⟨a.toArray⟩ : ByteArray) = ⟨b.toArray⟩) = decide (a = b) := by
  apply decide_eq_decide.2
  simp only [ByteArray.mk.injEq]
  exact ⟨fun h => by simpa using congrArg Array.toList h, fun h => by rw [h]⟩
set_option maxRecDepth 100000 in
set_option maxHeartbeats 1600000 in
theorem begins_any (l p : Bs) (k : Nat) (hl : l.length ≤ 65536) (hp : p.length ≤ 8) (hk : k ≤ l.length) (w : World) : Calls Tryd.prog 43 #[.string ⟨l.toArray⟩, .int .i64 (k : Int), .string ⟨p.toArray⟩] w fun e w' => e = .returned (.bool (p.isPrefixOf (l.drop k))) ∧ w' = w := by
  have hsz := list_size l
  have psz := list_size p
  have hpt := pre_take p (l.drop k)
  have i0 : ((⟨l.toArray⟩ : ByteArray).size : Int) ≤ 65536 := by omega
  have i1 : ((⟨p.toArray⟩ : ByteArray).size : Int) ≤ 8 := by omega
  have i2 : (k : Int) ≤ ((⟨l.toArray⟩ : ByteArray).size : Int) := by omega
  have i3 : (0 : Int) ≤ (k : Int) := by omega
  have i4 : (0 : Int) ≤ ((⟨p.toArray⟩ : ByteArray).size : Int) := by omega
  by_cases h : k + p.length ≤ l.length
  · have hs := fun W => slice_mid ⟨l.toArray⟩ k (k + p.length) (by omega) (by omega) W
    rw [show k + p.length - k = p.length from by omega] at hs
    have hb := beq_text ⟨((l.drop k).take p.length).toArray⟩ ⟨p.toArray⟩
    rw [text_eq, ← hpt] at hb
    have hs2 : ∀ W, (Instr.slice 9 (.string ⟨l.toArray⟩) (some (.int .i64 (k : Int))) (some (.int .i64 ((k : Int) + ((⟨p.toArray⟩ : ByteArray).size : Int)))) none).run Tryd.prog W = .ok (.string ⟨((l.drop k).take p.length).toArray⟩) W := fun W => by
      rw [psz]; exact hs W
    have i5 : ((⟨p.toArray⟩ : ByteArray).size : Int) ≤ ((⟨l.toArray⟩ : ByteArray).size : Int) - (k : Int) := by omega
    generalize p.isPrefixOf (l.drop k) = R at *
    generalize (⟨((l.drop k).take p.length).toArray⟩ : ByteArray) = q at *
    generalize (⟨l.toArray⟩ : ByteArray) = s at *
    generalize (⟨p.toArray⟩ : ByteArray) = t at *
    clear hs hpt hsz psz h hk hl hp
    go_enter Tryd.func43, Tryd.ntmps43
    go_wp2
    go_ret
    exact ⟨rfl, rfl⟩
  · have hf : p.isPrefixOf (l.drop k) = false := by
      rw [hpt]; refine decide_eq_false fun e => ?_
      have := congrArg List.length e
      rw [List.length_take, List.length_drop] at this
      omega
    rw [hf]
    have i5 : ¬ ((⟨p.toArray⟩ : ByteArray).size : Int) ≤ ((⟨l.toArray⟩ : ByteArray).size : Int) - (k : Int) := by omega
    generalize (⟨l.toArray⟩ : ByteArray) = s at *
    generalize (⟨p.toArray⟩ : ByteArray) = t at *
    clear hpt hsz psz h hk hl hp hf
    go_enter Tryd.func43, Tryd.ntmps43
    go_wp2
    go_ret
    exact ⟨rfl, rfl⟩
/-- where p stands first -/
def findP (p : Bs) : Bs → Option Nat
  | [] => none
  | c :: r => if p.isPrefixOf (c :: r) then some 0 else (findP p r).map (· + 1)
theorem findP_short {p : Bs} : ∀ {m : Bs}, m.length < p.length → findP p m = none
  | [], _ => rfl
  | c :: r, h => by
    rw [findP, findP_short (m := r) (by simp at h; omega), if_neg]
    · rfl
    · rw [pre_take, decide_eq_true_iff]
      intro e
      have := congrArg List.length e
      rw [List.length_take] at this
      omega
theorem findP_note : ∀ m : Bs, pastNote m = (findP [42, 41] m).map fun i => m.drop (i + 2)
  | [] => rfl
  | c :: r => by
    rw [pastNote, findP, pre_two]
    by_cases h : c = 42 ∧ r.head? = some 41
    · rw [if_pos h, if_pos (decide_eq_true h)]
      match r with
      | [] => rfl
      | x :: y => rfl
    · rw [if_neg h, if_neg (by rw [decide_eq_true_iff]; exact h), findP_note r]
      cases findP [42, 41] r <;> rfl
theorem findP_brace : ∀ m : Bs, pastBrace m = (findP [125] m).map fun i => m.drop (i + 1)
  | [] => rfl
  | c :: r => by
    rw [pastBrace, findP]
    by_cases h : c = 125
    · rw [if_pos h, if_pos (by rw [h]; simp [List.isPrefixOf])]; rfl
    · rw [if_neg h, if_neg (by simp [List.isPrefixOf]; exact fun e => h e.symm), findP_brace r]
      cases findP [125] r <;> rfl
theorem findP_line : ∀ m : Bs, toLine m = match findP [10] m with | none => [] | some i => m.drop i
  | [] => rfl
  | c :: r => by
    rw [toLine, findP]
    by_cases h : c = 10
    · rw [if_pos h, if_pos (by rw [h]; simp [List.isPrefixOf])]; rfl
    · rw [if_neg h, if_neg (by simp [List.isPrefixOf]; exact fun e => h e.symm), findP_line r]
      cases findP [10] r <;> rfl
theorem findP_le {p : Bs} : ∀ {m : Bs} {i : Nat}, findP p m = some i → i + p.length ≤ m.length
  | [], i, h => by cases h
  | c :: r, i, h => by
    rw [findP] at h
    split at h
    · next hp =>
      injection h with h
      subst h
      rw [pre_take, decide_eq_true_iff] at hp
      have := congrArg List.length hp
      rw [List.length_take] at this
      omega
    · cases hf : findP p r with
      | none => rw [hf] at h; cases h
      | some j =>
        rw [hf] at h
        have h : j + 1 = i := by injection h
        have := findP_le hf
        simp only [List.length_cons]
        omega
/-- find's answer -/
def findI (k : Nat) : Option Nat → Int
  | none => -1
  | some i => ((k + i : Nat) : Int)
set_option maxRecDepth 100000 in
set_option maxHeartbeats 1600000 in
theorem find_any (l p : Bs) (k : Nat) (hl : l.length ≤ 65536) (hp : p.length ≤ 8) (hp1 : 1 ≤ p.length) (hk : k ≤ l.length) (w : World) : Calls Tryd.prog 44 #[.string ⟨l.toArray⟩, .int .i64 (k : Int), .string ⟨p.toArray⟩] w fun e w' => e = .returned (.int .i64 (findI k (findP p (l.drop k)))) ∧ w' = w := by
  have hsz := hide (list_size l)
  have psz := hide (list_size p)
  have CB : Hid (∀ j, j ≤ l.length → ∀ W, Calls Tryd.prog 43 #[.string ⟨l.toArray⟩, .int .i64 (j : Int), .string ⟨p.toArray⟩] W fun e w' => e = .returned (.bool (p.isPrefixOf (l.drop j))) ∧ w' = W) := fun j hj W => begins_any l p j hl hp hj W
  have i0 : ((⟨l.toArray⟩ : ByteArray).size : Int) ≤ 65536 := by rw [list_size]; omega
  have i1 : ((⟨p.toArray⟩ : ByteArray).size : Int) ≤ 8 := by rw [list_size]; omega
  have i4 : (1 : Int) ≤ ((⟨p.toArray⟩ : ByteArray).size : Int) := by rw [list_size]; omega
  generalize (⟨l.toArray⟩ : ByteArray) = s at *
  generalize (⟨p.toArray⟩ : ByteArray) = t at *
  go_enter Tryd.func44, Tryd.ntmps44
  go_wp2_with fail
  go_loopw [7] (fun i wr => ∃ j : Nat, k ≤ j ∧ j ≤ l.length ∧ i = .int .i64 (j : Int) ∧ wr = w ∧ Hid (findI k (findP p (l.drop k)) = findI j (findP p (l.drop j)))) (fun i _ => l.length + 1 - (intOf i).toNat)
  case atStart => exact ⟨k, Nat.le_refl _, hk, rfl, rfl, rfl⟩
  case round =>
    obtain ⟨j, hkj, hjl, rfl, rfl, hh⟩ := hrel
    have j0 : (0 : Int) ≤ (j : Int) := by omega
    have jl : (j : Int) ≤ 65536 := by omega
    by_cases hlt : j + p.length ≤ l.length
    · have g1 : (j : Int) + (t.size : Int) ≤ (s.size : Int) := by have := hsz.out; have := psz.out; omega
      have cb := CB.out j hjl
      obtain ⟨c, hc⟩ : ∃ c, l.drop j = c :: l.drop (j + 1) := ⟨l[j]'(by omega), List.drop_eq_getElem_cons (by omega)⟩
      have hf : Hid (findP p (l.drop j) = if p.isPrefixOf (l.drop j) then some 0 else (findP p (l.drop (j + 1))).map (· + 1)) := by show _ = _; rw [hc, findP]
      clear hc
      cases hpre : p.isPrefixOf (l.drop j) with
      | true =>
        rw [hpre] at cb hf
        have HR : Hid (findI k (findP p (l.drop k)) = (j : Int)) := by show _ = _; rw [hh.out, hf.out]; rfl
        clear hh hf CB hpre
        go_wp2_with fail
        refine (cb _).mono ?_
        rintro e w1 ⟨rfl, rfl⟩
        clear cb
        go_wp2
        go_ret
        exact ⟨by rw [HR.out]; rfl, rfl⟩
      | false =>
        rw [hpre] at cb hf
        have HR : Hid (findI k (findP p (l.drop k)) = findI (j + 1) (findP p (l.drop (j + 1)))) := by
          show _ = _
          rw [hh.out, hf.out]
          cases findP p (l.drop (j + 1)) with
          | none => rfl
          | some i => show ((j + (i + 1) : Nat) : Int) = ((j + 1 + i : Nat) : Int); omega
        clear hh hf CB hpre
        go_wp2_with fail
        refine (cb _).mono ?_
        rintro e w1 ⟨rfl, rfl⟩
        clear cb
        go_wp2
        go_roundw
        case rel => exact ⟨j + 1, by omega, by omega, by go_num, trivial, HR.out⟩
        case measure => simp only [intOf]; omega
    · have g1 : ¬ (j : Int) + (t.size : Int) ≤ (s.size : Int) := by have := hsz.out; have := psz.out; omega
      have HR : Hid (findI k (findP p (l.drop k)) = -1) := by
        show _ = _
        rw [hh.out, findP_short (by rw [List.length_drop]; omega)]; rfl
      clear hh CB
      go_wp2
      go_ret
      exact ⟨by rw [HR.out]; rfl, rfl⟩
end Go.Proofs.YtfcnbiikjopajaaDoor
