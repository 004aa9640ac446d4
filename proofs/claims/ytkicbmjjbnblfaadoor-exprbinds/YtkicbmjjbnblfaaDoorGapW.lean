/- What stands between tokens: the contracts of lex.line, lex.enclosed and lex.gap. -/
import Derived.Test.YtkicbmjjbnblfaaDoorWordW
namespace Go.Proofs.YtkicbmjjbnblfaaDoor
open Go.RowKit
theorem line_idx : ∀ l : Bs, (0 ≤ Lib.indexByte l 10 → Lib.indexByte l 10 = ((l.length - (toLine l).length : Nat) : Int)) ∧ (¬ 0 ≤ Lib.indexByte l 10 → toLine l = [])
  | [] => ⟨fun h => by simp [Lib.indexByte] at h, fun _ => rfl⟩
  | c :: r => by
    have ih := line_idx r
    have hge := Lib.indexByte_ge r 10
    have hl := toLine_len r
    unfold Lib.indexByte toLine
    by_cases hc : c = 10
    · simp [hc]
    · have hb : (c == (10 : UInt8)) = false := by rw [beq_eq_false_iff_ne]; exact hc
      rw [if_neg hc]
      simp only [hb, Bool.false_eq_true, if_false]
      by_cases h0 : 0 ≤ Lib.indexByte r 10
      · have e := ih.1 h0
        have h1 : ¬ (Lib.indexByte r 10 == -1) = true := by rw [beq_iff_eq]; omega
        rw [if_neg h1]
        refine ⟨fun _ => ?_, fun h => absurd (by omega) h⟩
        rw [List.length_cons]
        omega
      · have h1 : (Lib.indexByte r 10 == -1) = true := by rw [beq_iff_eq]; omega
        rw [if_pos h1]
        exact ⟨fun h => by omega, fun _ => ih.2 h0⟩
theorem note_idx : ∀ l : Bs, (0 ≤ Lib.index l [42, 41] → Lib.index l [42, 41] + 2 ≤ (l.length : Int) ∧ pastNote l = some (l.drop (Lib.index l [42, 41] + 2).toNat)) ∧ (¬ 0 ≤ Lib.index l [42, 41] → pastNote l = none)
  | [] => ⟨fun h => by simp [Lib.index] at h, fun _ => rfl⟩
  | c :: r => by
    have ih := note_idx r
    have hge := Lib.index_ge r [42, 41]
    unfold Lib.index pastNote
    by_cases hc : c = 42 ∧ r.head? = some 41
    · obtain ⟨q, rfl⟩ : ∃ q, r = 41 :: q := by
        match r, hc.2 with
        | d :: q, h => injection h with h; exact ⟨q, by rw [h]⟩
      obtain ⟨rfl, _⟩ := hc
      simp [List.isPrefixOf]
      omega
    · have hp : List.isPrefixOf [42, 41] (c :: r) = false := by
        cases hq : List.isPrefixOf [42, 41] (c :: r) with
        | false => rfl
        | true =>
          exfalso
          have := (pre_iff [42, 41] (c :: r)).1 hq
          match r, this with
          | [], h => simp at h
          | d :: q, h =>
            simp at h
            exact hc ⟨h.1.symm, by rw [← h.2]; rfl⟩
      rw [hp, if_neg hc]
      simp only [Bool.false_eq_true, if_false]
      by_cases h0 : 0 ≤ Lib.index r [42, 41]
      · obtain ⟨e1, e2⟩ := ih.1 h0
        have h1 : ¬ (Lib.index r [42, 41] == -1) = true := by rw [beq_iff_eq]; omega
        rw [if_neg h1]
        refine ⟨fun _ => ⟨by rw [List.length_cons]; omega, ?_⟩, fun h => absurd (by omega) h⟩
        rw [e2, show (Lib.index r [42, 41] + 1 + 2).toNat = (Lib.index r [42, 41] + 2).toNat + 1 by omega, List.drop_succ_cons]
      · have h1 : (Lib.index r [42, 41] == -1) = true := by rw [beq_iff_eq]; omega
        rw [if_pos h1]
        exact ⟨fun h => by omega, fun _ => ih.2 h0⟩
theorem brace_idx : ∀ l : Bs, (0 ≤ Lib.index l [125] → Lib.index l [125] + 1 ≤ (l.length : Int) ∧ pastBrace l = some (l.drop (Lib.index l [125] + 1).toNat)) ∧ (¬ 0 ≤ Lib.index l [125] → pastBrace l = none)
  | [] => ⟨fun h => by simp [Lib.index] at h, fun _ => rfl⟩
  | c :: r => by
    have ih := brace_idx r
    have hge := Lib.index_ge r [125]
    unfold Lib.index pastBrace
    by_cases hc : c = 125
    · subst hc
      simp [List.isPrefixOf]
      omega
    · have hp : List.isPrefixOf [125] (c :: r) = false := by
        show ((125 : UInt8) == c && _) = false
        rw [Bool.and_eq_false_iff]
        left
        rw [beq_eq_false_iff_ne]
        exact fun e => hc e.symm
      rw [hp, if_neg hc]
      simp only [Bool.false_eq_true, if_false]
      by_cases h0 : 0 ≤ Lib.index r [125]
      · obtain ⟨e1, e2⟩ := ih.1 h0
        have h1 : ¬ (Lib.index r [125] == -1) = true := by rw [beq_iff_eq]; omega
        rw [if_neg h1]
        refine ⟨fun _ => ⟨by rw [List.length_cons]; omega, ?_⟩, fun h => absurd (by omega) h⟩
        rw [e2, show (Lib.index r [125] + 1 + 1).toNat = (Lib.index r [125] + 1).toNat + 1 by omega, List.drop_succ_cons]
      · have h1 : (Lib.index r [125] == -1) = true := by rw [beq_iff_eq]; omega
        rw [if_pos h1]
        exact ⟨fun h => by omega, fun _ => ih.2 h0⟩
theorem index_le : ∀ l sub : Bs, Lib.index l sub ≤ (l.length : Int)
  | [], sub => by unfold Lib.index; split <;> simp
  | c :: r, sub => by
    have ih := index_le r sub
    unfold Lib.index
    rw [List.length_cons]
    split
    · omega
    · split <;> omega
theorem blk_idx (c : UInt8) : decide (0 ≤ Lib.indexByte [32, 9, 10, 13] c) = isBlk c := all8 (P := fun c => decide (0 ≤ Lib.indexByte [32, 9, 10, 13] c) = isBlk c) (by decide +kernel) c
/-- what is left behind one blank, note or pragma (all, if none stands there); none: one without an end -/
def gapP : Bs → Option Bs
  | [] => some []
  | c :: r => if isBlk c then some r else if c = 47 ∧ r.head? = some 47 then some (toLine (c :: r)) else if c = 40 ∧ r.head? = some 42 then pastNote r.tail else if c = 123 then pastBrace r else some (c :: r)
def gapOut (l : Bs) : Value := match gapP l with
  | none => .tuple #[.int .i64 0, .bool false]
  | some r => .tuple #[.int .i64 ((l.length - r.length : Nat) : Int), .bool true]
set_option maxRecDepth 100000 in
theorem line_any (l : Bs) (w : World) : Calls Tryd.prog 66 #[.string ⟨l.toArray⟩] w fun e w' => e = .returned (.int .i64 ((l.length - (toLine l).length : Nat) : Int)) ∧ w' = w := by
  have c0 : ∀ W, Calls Tryd.prog 64 #[.string ⟨l.toArray⟩, .int .u8 10] W fun e w' => e = .returned (.int .i64 (Lib.indexByte l 10)) ∧ w' = W := fun W => Tryd.strings_IndexByte ⟨l.toArray⟩ 10 W
  obtain ⟨h1, h2⟩ := line_idx l
  have hsz := list_size l
  by_cases h0 : 0 ≤ Lib.indexByte l 10
  · have H1 := hide (h1 h0)
    generalize Lib.indexByte l 10 = i at *
    generalize (⟨l.toArray⟩ : ByteArray) = s at *
    clear h1 h2 hsz
    go_enter Tryd.func66, Tryd.ntmps66
    go_wp2_with fail
    refine (c0 _).mono ?_
    rintro e w1 ⟨rfl, hw1⟩
    subst hw1
    go_wp2
    go_ret
    exact ⟨ret_int H1.out, rfl⟩
  · have H1 := hide (h2 h0)
    generalize Lib.indexByte l 10 = i at *
    have HS := hide hsz
    generalize (⟨l.toArray⟩ : ByteArray) = s at *
    clear h1 h2 hsz
    go_enter Tryd.func66, Tryd.ntmps66
    go_wp2_with fail
    refine (c0 _).mono ?_
    rintro e w1 ⟨rfl, hw1⟩
    subst hw1
    go_wp2
    go_ret
    exact ⟨ret_int (by rw [H1.out, HS.out]; rfl), rfl⟩
set_option maxRecDepth 100000 in
set_option maxHeartbeats 1600000 in
theorem enclosed_any (l op cl : Bs) (hl : l.length ≤ 65536) (ho : op.length ≤ l.length) (hc : cl.length ≤ 2) (w : World) (hg : Glo w) : Calls Tryd.prog 67 #[.string ⟨l.toArray⟩, .string ⟨op.toArray⟩, .string ⟨cl.toArray⟩] w fun e w' => e = .returned (if 0 ≤ Lib.index (l.drop op.length) cl then .tuple #[.int .i64 ((op.length : Int) + Lib.index (l.drop op.length) cl + (cl.length : Int)), .bool true] else .tuple #[.int .i64 0, .bool false]) ∧ w' = w := by
  obtain ⟨mm, hm⟩ := hg.most
  have x0 : ∀ W, (Instr.slice 9 (.string ⟨l.toArray⟩) (some (.int .i64 (op.length : Int))) none none).run Tryd.prog W = .ok (.string ⟨(l.drop op.length).toArray⟩) W := fun W => slice_from ⟨l.toArray⟩ op.length (by rw [list_size]; exact ho) W
  have c0 : Calls Tryd.prog 97 #[.string ⟨(l.drop op.length).toArray⟩, .string ⟨cl.toArray⟩] w fun e w' => e = .returned (.int .i64 (Lib.index (l.drop op.length) cl)) ∧ w' = w := Tryd.strings_Index ⟨(l.drop op.length).toArray⟩ ⟨cl.toArray⟩ mm w (by rw [list_size, List.length_drop]; omega) hm
  have s1 : ((⟨op.toArray⟩ : ByteArray).size : Int) = (op.length : Int) := by rw [list_size]
  have s2 : ((⟨cl.toArray⟩ : ByteArray).size : Int) = (cl.length : Int) := by rw [list_size]
  have hle : Lib.index (l.drop op.length) cl ≤ 65536 := by
    have := index_le (l.drop op.length) cl
    rw [List.length_drop] at this
    omega
  have hge := Lib.index_ge (l.drop op.length) cl
  have i1 : (op.length : Int) ≤ 65536 := by omega
  have i2 : (cl.length : Int) ≤ 2 := by omega
  have i3 : (0 : Int) ≤ (op.length : Int) := by omega
  have i4 : (0 : Int) ≤ (cl.length : Int) := by omega
  generalize Lib.index (l.drop op.length) cl = i at *
  generalize (op.length : Int) = a at *
  generalize (cl.length : Int) = b at *
  generalize (⟨(l.drop op.length).toArray⟩ : ByteArray) = q at *
  generalize (⟨op.toArray⟩ : ByteArray) = oo at *
  generalize (⟨cl.toArray⟩ : ByteArray) = cc at *
  generalize (⟨l.toArray⟩ : ByteArray) = s at *
  clear hg hm hl ho hc
  by_cases h0 : 0 ≤ i
  · rw [if_pos h0]
    have h1 : ¬ i < 0 := by omega
    go_enter Tryd.func67, Tryd.ntmps67
    go_wp2_with fail
    refine c0.mono ?_
    rintro e w1 ⟨rfl, hw1⟩
    subst hw1
    go_wp2
    go_ret2
    exact ⟨rfl, rfl⟩
  · rw [if_neg h0]
    have h1 : i < 0 := by omega
    go_enter Tryd.func67, Tryd.ntmps67
    go_wp2_with fail
    refine c0.mono ?_
    rintro e w1 ⟨rfl, hw1⟩
    subst hw1
    go_wp2
    go_ret2
    exact ⟨rfl, rfl⟩
end Go.Proofs.YtkicbmjjbnblfaaDoor
