/- What stands between tokens: the contracts of lex.line, lex.enclosed and lex.gap. | The contract of lex.gap; skipping by gaps. | The tokens' loop, plain: what is read ahead and what follows. -/
import Derived.Test.YtkicbmjjbnblfaaGreatDoorWordW
import Derived.ScopeJumps
import Derived.WalkMore
namespace Go.Proofs.YtkicbmjjbnblfaaGreatDoor
open Go.RowKit
theorem line_idx : ∀ l : Bs, (0 ≤ Lib.indexByte l 10 → Lib.indexByte l 10 = ((l.length - (toLine l).length : Nat) : Int)) ∧ (¬ 0 ≤ Lib.indexByte l 10 → toLine l = [])
  | [] => ⟨fun h => by simp [Lib.indexByte] at h, fun _ => rfl⟩
  | c :: r => by
    have ih := line_idx r
    have hge := Lib.indexByte_ge r 10
    have hl := toLine_len r
    unfold Lib.indexByte toLine
    by_cases hc : c = 10
    · simp [hc]
    · have hb : (c == (10 : UInt8)) = false := by rw [beq_eq_false_iff_ne]; exact hc
      rw [if_neg hc]
      simp only [hb, Bool.false_eq_true, if_false]
      by_cases h0 : 0 ≤ Lib.indexByte r 10
      · have e := ih.1 h0
        have h1 : ¬ (Lib.indexByte r 10 == -1) = true := by rw [beq_iff_eq]; omega
        rw [if_neg h1]
        refine ⟨fun _ => ?_, fun h => absurd (by omega) h⟩
        rw [List.length_cons]
        omega
      · have h1 : (Lib.indexByte r 10 == -1) = true := by rw [beq_iff_eq]; omega
        rw [if_pos h1]
        exact ⟨fun h => by omega, fun _ => ih.2 h0⟩
theorem note_idx : ∀ l : Bs, (0 ≤ Lib.index l [42, 41] → Lib.index l [42, 41] + 2 ≤ (l.length : Int) ∧ pastNote l = some (l.drop (Lib.index l [42, 41] + 2).toNat)) ∧ (¬ 0 ≤ Lib.index l [42, 41] → pastNote l = none)
  | [] => ⟨fun h => by simp [Lib.index] at h, fun _ => rfl⟩
  | c :: r => by
    have ih := note_idx r
    have hge := Lib.index_ge r [42, 41]
    unfold Lib.index pastNote
    by_cases hc : c = 42 ∧ r.head? = some 41
    · obtain ⟨q, rfl⟩ : ∃ q, r = 41 :: q := by
        match r, hc.2 with
        | d :: q, h => injection h with h; exact ⟨q, by rw [h]⟩
      obtain ⟨rfl, _⟩ := hc
      simp [List.isPrefixOf]
      omega
    · have hp : List.isPrefixOf [42, 41] (c :: r) = false := by
        cases hq : List.isPrefixOf [42, 41] (c :: r) with
        | false => rfl
        | true =>
          exfalso
          have := (pre_iff [42, 41] (c :: r)).1 hq
          match r, this with
          | [], h => simp at h
          | d :: q, h =>
            simp at h
            exact hc ⟨h.1.symm, by rw [← h.2]; rfl⟩
      rw [hp, if_neg hc]
      simp only [Bool.false_eq_true, if_false]
      by_cases h0 : 0 ≤ Lib.index r [42, 41]
      · obtain ⟨e1, e2⟩ := ih.1 h0
        have h1 : ¬ (Lib.index r [42, 41] == -1) = true := by rw [beq_iff_eq]; omega
        rw [if_neg h1]
        refine ⟨fun _ => ⟨by rw [List.length_cons]; omega, ?_⟩, fun h => absurd (by omega) h⟩
        rw [e2, show (Lib.index r [42, 41] + 1 + 2).toNat = (Lib.index r [42, 41] + 2).toNat + 1 by omega, List.drop_succ_cons]
      · have h1 : (Lib.index r [42, 41] == -1) = true := by rw [beq_iff_eq]; omega
        rw [if_pos h1]
        exact ⟨fun h => by omega, fun _ => ih.2 h0⟩
theorem brace_idx : ∀ l : Bs, (0 ≤ Lib.index l [125] → Lib.index l [125] + 1 ≤ (l.length : Int) ∧ pastBrace l = some (l.drop (Lib.index l [125] + 1).toNat)) ∧ (¬ 0 ≤ Lib.index l [125] → pastBrace l = none)
  | [] => ⟨fun h => by simp [Lib.index] at h, fun _ => rfl⟩
  | c :: r => by
    have ih := brace_idx r
    have hge := Lib.index_ge r [125]
    unfold Lib.index pastBrace
    by_cases hc : c = 125
    · subst hc
      simp [List.isPrefixOf]
      omega
    · have hp : List.isPrefixOf [125] (c :: r) = false := by
        show ((125 : UInt8) == c && _) = false
        rw [Bool.and_eq_false_iff]
        left
        rw [beq_eq_false_iff_ne]
        exact fun e => hc e.symm
      rw [hp, if_neg hc]
      simp only [Bool.false_eq_true, if_false]
      by_cases h0 : 0 ≤ Lib.index r [125]
      · obtain ⟨e1, e2⟩ := ih.1 h0
        have h1 : ¬ (Lib.index r [125] == -1) = true := by rw [beq_iff_eq]; omega
        rw [if_neg h1]
        refine ⟨fun _ => ⟨by rw [List.length_cons]; omega, ?_⟩, fun h => absurd (by omega) h⟩
        rw [e2, show (Lib.index r [125] + 1 + 1).toNat = (Lib.index r [125] + 1).toNat + 1 by omega, List.drop_succ_cons]
      · have h1 : (Lib.index r [125] == -1) = true := by rw [beq_iff_eq]; omega
        rw [if_pos h1]
        exact ⟨fun h => by omega, fun _ => ih.2 h0⟩
theorem index_le : ∀ l sub : Bs, Lib.index l sub ≤ (l.length : Int)
  | [], sub => by unfold Lib.index; split <;> simp
  | c :: r, sub => by
    have ih := index_le r sub
    unfold Lib.index
    rw [List.length_cons]
    split
    · omega
    · split <;> omega
theorem blk_idx (c : UInt8) : decide (0 ≤ Lib.indexByte [32, 9, 10, 13] c) = isBlk c := all8 (P := fun c => decide (0 ≤ Lib.indexByte [32, 9, 10, 13] c) = isBlk c) (by decide +kernel) c
/-- what is left behind one blank, note or pragma (all, if none stands there); none: one without an end -/
def gapP : Bs → Option Bs
  | [] => some []
  | c :: r => if isBlk c then some r else if c = 47 ∧ r.head? = some 47 then some (toLine (c :: r)) else if c = 40 ∧ r.head? = some 42 then pastNote r.tail else if c = 123 then pastBrace r else some (c :: r)
def gapOut (l : Bs) : Value := match gapP l with
  | none => .tuple #[.int .i64 0, .bool false]
  | some r => .tuple #[.int .i64 ((l.length - r.length : Nat) : Int), .bool true]
set_option maxRecDepth 100000 in
theorem line_any (l : Bs) (w : World) : Calls Tryz.prog 80 #[.string ⟨l.toArray⟩] w fun e w' => e = .returned (.int .i64 ((l.length - (toLine l).length : Nat) : Int)) ∧ w' = w := by
  have c0 : ∀ W, Calls Tryz.prog 78 #[.string ⟨l.toArray⟩, .int .u8 10] W fun e w' => e = .returned (.int .i64 (Lib.indexByte l 10)) ∧ w' = W := fun W => Tryz.strings_IndexByte ⟨l.toArray⟩ 10 W
  obtain ⟨h1, h2⟩ := line_idx l
  have hsz := list_size l
  by_cases h0 : 0 ≤ Lib.indexByte l 10
  · have H1 := hide (h1 h0)
    generalize Lib.indexByte l 10 = i at *
    generalize (⟨l.toArray⟩ : ByteArray) = s at *
    clear h1 h2 hsz
    go_enter Tryz.func80, Tryz.ntmps80
    go_wp2_with fail
    refine (c0 _).mono ?_
    rintro e w1 ⟨rfl, hw1⟩
    subst hw1
    go_wp2
    go_ret
    exact ⟨ret_int H1.out, rfl⟩
  · have H1 := hide (h2 h0)
    generalize Lib.indexByte l 10 = i at *
    have HS := hide hsz
    generalize (⟨l.toArray⟩ : ByteArray) = s at *
    clear h1 h2 hsz
    go_enter Tryz.func80, Tryz.ntmps80
    go_wp2_with fail
    refine (c0 _).mono ?_
    rintro e w1 ⟨rfl, hw1⟩
    subst hw1
    go_wp2
    go_ret
    exact ⟨ret_int (by rw [H1.out, HS.out]; rfl), rfl⟩
set_option maxRecDepth 100000 in
set_option maxHeartbeats 1600000 in
theorem enclosed_any (l op cl : Bs) (hl : l.length ≤ 65536) (ho : op.length ≤ l.length) (hc : cl.length ≤ 2) (w : World) (hg : Glo w) : Calls Tryz.prog 81 #[.string ⟨l.toArray⟩, .string ⟨op.toArray⟩, .string ⟨cl.toArray⟩] w fun e w' => e = .returned (if 0 ≤ Lib.index (l.drop op.length) cl then .tuple #[.int .i64 ((op.length : Int) + Lib.index (l.drop op.length) cl + (cl.length : Int)), .bool true] else .tuple #[.int .i64 0, .bool false]) ∧ w' = w := by
  obtain ⟨mm, hm⟩ := hg.most
  have x0 : ∀ W, (Instr.slice 9 (.string ⟨l.toArray⟩) (some (.int .i64 (op.length : Int))) none none).run Tryz.prog W = .ok (.string ⟨(l.drop op.length).toArray⟩) W := fun W => slice_from ⟨l.toArray⟩ op.length (by rw [list_size]; exact ho) W
  have c0 : Calls Tryz.prog 94 #[.string ⟨(l.drop op.length).toArray⟩, .string ⟨cl.toArray⟩] w fun e w' => e = .returned (.int .i64 (Lib.index (l.drop op.length) cl)) ∧ w' = w := Tryz.strings_Index ⟨(l.drop op.length).toArray⟩ ⟨cl.toArray⟩ mm w (by rw [list_size, List.length_drop]; omega) hm
  have s1 : ((⟨op.toArray⟩ : ByteArray).size : Int) = (op.length : Int) := by rw [list_size]
  have s2 : ((⟨cl.toArray⟩ : ByteArray).size : Int) = (cl.length : Int) := by rw [list_size]
  have hle : Lib.index (l.drop op.length) cl ≤ 65536 := by
    have := index_le (l.drop op.length) cl
    rw [List.length_drop] at this
    omega
  have hge := Lib.index_ge (l.drop op.length) cl
  have i1 : (op.length : Int) ≤ 65536 := by omega
  have i2 : (cl.length : Int) ≤ 2 := by omega
  have i3 : (0 : Int) ≤ (op.length : Int) := by omega
  have i4 : (0 : Int) ≤ (cl.length : Int) := by omega
  generalize Lib.index (l.drop op.length) cl = i at *
  generalize (op.length : Int) = a at *
  generalize (cl.length : Int) = b at *
  generalize (⟨(l.drop op.length).toArray⟩ : ByteArray) = q at *
  generalize (⟨op.toArray⟩ : ByteArray) = oo at *
  generalize (⟨cl.toArray⟩ : ByteArray) = cc at *
  generalize (⟨l.toArray⟩ : ByteArray) = s at *
  clear hg hm hl ho hc
  by_cases h0 : 0 ≤ i
  · rw [if_pos h0]
    have h1 : ¬ i < 0 := by omega
    go_enter Tryz.func81, Tryz.ntmps81
    go_wp2_with fail
    refine c0.mono ?_
    rintro e w1 ⟨rfl, hw1⟩
    subst hw1
    go_wp2
    go_ret2
    exact ⟨rfl, rfl⟩
  · rw [if_neg h0]
    have h1 : i < 0 := by omega
    go_enter Tryz.func81, Tryz.ntmps81
    go_wp2_with fail
    refine c0.mono ?_
    rintro e w1 ⟨rfl, hw1⟩
    subst hw1
    go_wp2
    go_ret2
    exact ⟨rfl, rfl⟩
end Go.Proofs.YtkicbmjjbnblfaaGreatDoor
namespace Go.Proofs.YtkicbmjjbnblfaaGreatDoor
open Go.RowKit
theorem gap_len {l r : Bs} (h : gapP l = some r) : r.length ≤ l.length := by
  match l, h with
  | [], h => injection h with h; subst h; exact Nat.le_refl _
  | c :: q, h =>
    rw [gapP] at h
    split at h
    · injection h with h; subst h; simp
    · split at h
      · injection h with h; subst h; exact toLine_len _
      · split at h
        · have := pastNote_len h
          have := tail_len q
          simp; omega
        · split at h
          · have := pastBrace_len h
            simp; omega
          · injection h with h; subst h; exact Nat.le_refl _
theorem skip_gap (l : Bs) : skip l = (match gapP l with | none => .error l | some r => if r.length = l.length then .ok l else skip r) := by
  match l with
  | [] => rfl
  | c :: r =>
    rw [skip_cons, gapP]
    by_cases h1 : isBlk c = true
    · rw [if_pos h1, if_pos h1]
      simp
    · rw [if_neg h1, if_neg h1]
      by_cases h2 : c = 47 ∧ r.head? = some 47
      · have h40 : ¬ (c = 40 ∧ r.head? = some 42) := fun h => by rw [h2.1] at h; exact absurd h.1 (by decide)
        have hl : toLine (c :: r) = toLine r := by rw [toLine, if_neg (by rw [h2.1]; decide)]
        rw [if_neg h40, if_pos h2, if_pos h2, hl]
        have := toLine_len r
        simp only [List.length_cons]
        rw [if_neg (by omega)]
      · rw [if_neg h2, if_neg h2]
        by_cases h3 : c = 40 ∧ r.head? = some 42
        · rw [if_pos h3, if_pos h3]
          cases hn : pastNote r.tail with
          | none => rfl
          | some q =>
            have h4 := pastNote_len hn
            have h5 := tail_len r
            simp only [List.length_cons]
            rw [if_neg (by omega)]
        · rw [if_neg h3, if_neg h3]
          by_cases h4 : c = 123
          · rw [if_pos h4, if_pos h4]
            cases hn : pastBrace r with
            | none => rfl
            | some q =>
              have h5 := pastBrace_len hn
              simp only [List.length_cons]
              rw [if_neg (by omega)]
          · rw [if_neg h4, if_neg h4]
            simp
theorem pre_two (a b c : UInt8) (r : Bs) : List.isPrefixOf [a, b] (c :: r) = decide (c = a ∧ r.head? = some b) := by
  match r with
  | [] => simp [List.isPrefixOf]
  | d :: q =>
    rw [Bool.eq_iff_iff]
    simp [List.isPrefixOf]
    constructor
    · rintro ⟨rfl, rfl⟩; exact ⟨rfl, rfl⟩
    · rintro ⟨rfl, rfl⟩; exact ⟨rfl, rfl⟩
set_option maxRecDepth 100000 in
set_option maxHeartbeats 3200000 in
theorem gap_any (l : Bs) (hl : l.length ≤ 65536) (w : World) (hg : Glo w) : Calls Tryz.prog 68 #[.string ⟨l.toArray⟩] w fun e w' => e = .returned (gapOut l) ∧ w' = w := by
  match l with
  | [] =>
    clear hg hl
    go_enter Tryz.func68, Tryz.ntmps68
    go_wp2
    go_ret2
    exact ⟨rfl, rfl⟩
  | c :: r =>
    have hne := ne_empty c r
    have x0 : ∀ W, (Instr.index 9 (.string ⟨(c :: r).toArray⟩) (.int .i64 0)).run Tryz.prog W = .ok (.int .u8 (c.toNat : Int)) W := run_idx ⟨(c :: r).toArray⟩ 0 c rfl
    have c1 : ∀ W, Calls Tryz.prog 78 #[.string ⟨#[32, 9, 10, 13]⟩, .int .u8 (c.toNat : Int)] W fun e w' => e = .returned (.int .i64 (Lib.indexByte [32, 9, 10, 13] c)) ∧ w' = W := fun W => by
      have := Tryz.strings_IndexByte ⟨#[32, 9, 10, 13]⟩ (c.toNat : Int) W
      rw [Int.toNat_natCast, show c.toNat.toUInt8 = c from UInt8.ofNat_toNat] at this
      exact this
    have hb := blk_idx c
    by_cases h1 : isBlk c = true
    · have i1 : 0 ≤ Lib.indexByte [32, 9, 10, 13] c := of_decide_eq_true (hb.trans h1)
      have HO := hide (show gapOut (c :: r) = .tuple #[.int .i64 1, .bool true] by
        unfold gapOut
        rw [gapP, if_pos h1]
        simp only [List.length_cons]
        rw [show r.length + 1 - r.length = 1 by omega]
        rfl)
      generalize Lib.indexByte [32, 9, 10, 13] c = i at *
      generalize gapOut (c :: r) = O at *
      generalize (⟨(c :: r).toArray⟩ : ByteArray) = s at *
      generalize (c.toNat : Int) = x at *
      clear hb hl hg h1
      go_enter Tryz.func68, Tryz.ntmps68
      go_wp2_with fail
      refine (c1 _).mono ?_
      rintro e w1 ⟨rfl, hw1⟩
      subst hw1
      go_wp2
      go_ret2
      exact ⟨by rw [HO.out]; rfl, rfl⟩
    · have i1 : ¬ 0 ≤ Lib.indexByte [32, 9, 10, 13] c := fun h => h1 (hb ▸ decide_eq_true h)
      have c2 : ∀ W, Calls Tryz.prog 79 #[.string ⟨(c :: r).toArray⟩, .string ⟨#[47, 47]⟩] W fun e w' => e = .returned (.bool (List.isPrefixOf [47, 47] (c :: r))) ∧ w' = W := fun W => Tryz.strings_HasPrefix ⟨(c :: r).toArray⟩ ⟨#[47, 47]⟩ W
      rw [pre_two] at c2
      by_cases h2 : c = 47 ∧ r.head? = some 47
      · rw [decide_eq_true h2] at c2
        have c3 := fun W => line_any (c :: r) W
        have HO := hide (show gapOut (c :: r) = .tuple #[.int .i64 (((c :: r).length - (toLine (c :: r)).length : Nat) : Int), .bool true] by
          unfold gapOut
          rw [gapP, if_neg h1, if_pos h2])
        generalize (((c :: r).length - (toLine (c :: r)).length : Nat) : Int) = z at *
        generalize Lib.indexByte [32, 9, 10, 13] c = i at *
        generalize gapOut (c :: r) = O at *
        generalize (⟨(c :: r).toArray⟩ : ByteArray) = s at *
        generalize (c.toNat : Int) = x at *
        clear hb hl hg h1 h2
        go_enter Tryz.func68, Tryz.ntmps68
        go_wp2_with fail
        refine (c1 _).mono ?_
        rintro e w1 ⟨rfl, hw1⟩
        subst hw1
        go_wp2_with fail
        refine (c2 _).mono ?_
        rintro e w1 ⟨rfl, hw1⟩
        subst hw1
        go_wp2_with fail
        refine (c3 _).mono ?_
        rintro e w1 ⟨rfl, hw1⟩
        subst hw1
        go_wp2
        go_ret2
        exact ⟨by rw [HO.out]; rfl, rfl⟩
      · rw [decide_eq_false h2] at c2
        have c4 : ∀ W, Calls Tryz.prog 79 #[.string ⟨(c :: r).toArray⟩, .string ⟨#[40, 42]⟩] W fun e w' => e = .returned (.bool (List.isPrefixOf [40, 42] (c :: r))) ∧ w' = W := fun W => Tryz.strings_HasPrefix ⟨(c :: r).toArray⟩ ⟨#[40, 42]⟩ W
        rw [pre_two] at c4
        by_cases h3 : c = 40 ∧ r.head? = some 42
        · rw [decide_eq_true h3] at c4
          obtain ⟨q, rfl⟩ : ∃ q, r = 42 :: q := by
            match r, h3.2 with
            | d :: q, h => injection h with h; exact ⟨q, by rw [h]⟩
          have c5 : Calls Tryz.prog 81 #[.string ⟨(c :: 42 :: q).toArray⟩, .string ⟨#[40, 42]⟩, .string ⟨#[42, 41]⟩] w fun e w' => e = .returned (gapOut (c :: 42 :: q)) ∧ w' = w := by
            have h := enclosed_any (c :: 42 :: q) [40, 42] [42, 41] hl (by simp) (by simp) w hg
            refine h.mono fun e w' ⟨e1, e2⟩ => ⟨?_, e2⟩
            rw [e1]
            congr 1
            have hn := note_idx q
            unfold gapOut
            rw [gapP, if_neg h1, if_neg h2, if_pos h3]
            simp only [List.tail_cons]
            show (if 0 ≤ Lib.index q [42, 41] then _ else _) = _
            by_cases h0 : 0 ≤ Lib.index q [42, 41]
            · obtain ⟨n1, n2⟩ := hn.1 h0
              rw [if_pos h0, n2]
              show Value.tuple #[.int .i64 ((2 : Int) + Lib.index q [42, 41] + 2), .bool true] = Value.tuple #[.int .i64 (((c :: 42 :: q).length - (q.drop (Lib.index q [42, 41] + 2).toNat).length : Nat) : Int), .bool true]
              rw [show (((c :: 42 :: q).length - (q.drop (Lib.index q [42, 41] + 2).toNat).length : Nat) : Int) = (2 : Int) + Lib.index q [42, 41] + 2 by
                rw [List.length_drop, List.length_cons, List.length_cons]
                omega]
            · rw [if_neg h0, hn.2 h0]
          obtain ⟨n, b, hgo⟩ : ∃ n b, gapOut (c :: 42 :: q) = .tuple #[.int .i64 n, .bool b] := by
            unfold gapOut
            split
            · exact ⟨_, _, rfl⟩
            · exact ⟨_, _, rfl⟩
          rw [hgo] at c5 ⊢
          generalize Lib.indexByte [32, 9, 10, 13] c = i at *
          generalize (⟨(c :: 42 :: q).toArray⟩ : ByteArray) = s at *
          generalize (c.toNat : Int) = x at *
          clear hb hl hg h1 h2 h3 hgo
          go_enter Tryz.func68, Tryz.ntmps68
          go_wp2_with fail
          refine (c1 _).mono ?_
          rintro e w1 ⟨rfl, hw1⟩
          subst hw1
          go_wp2_with fail
          refine (c2 _).mono ?_
          rintro e w1 ⟨rfl, hw1⟩
          subst hw1
          go_wp2_with fail
          refine (c4 _).mono ?_
          rintro e w1 ⟨rfl, hw1⟩
          subst hw1
          go_wp2_with fail
          refine c5.mono ?_
          rintro e w1 ⟨rfl, hw1⟩
          subst hw1
          go_wp2
          go_ret2
          exact ⟨rfl, rfl⟩
        · rw [decide_eq_false h3] at c4
          by_cases h4 : c = 123
          · have c5 : Calls Tryz.prog 81 #[.string ⟨(c :: r).toArray⟩, .string ⟨#[123]⟩, .string ⟨#[125]⟩] w fun e w' => e = .returned (gapOut (c :: r)) ∧ w' = w := by
              have h := enclosed_any (c :: r) [123] [125] hl (by simp) (by simp) w hg
              refine h.mono fun e w' ⟨e1, e2⟩ => ⟨?_, e2⟩
              rw [e1]
              congr 1
              have hn := brace_idx r
              unfold gapOut
              rw [gapP, if_neg h1, if_neg h2, if_neg h3, if_pos h4]
              show (if 0 ≤ Lib.index r [125] then _ else _) = _
              by_cases h0 : 0 ≤ Lib.index r [125]
              · obtain ⟨n1, n2⟩ := hn.1 h0
                rw [if_pos h0, n2]
                show Value.tuple #[.int .i64 ((1 : Int) + Lib.index r [125] + 1), .bool true] = Value.tuple #[.int .i64 (((c :: r).length - (r.drop (Lib.index r [125] + 1).toNat).length : Nat) : Int), .bool true]
                rw [show (((c :: r).length - (r.drop (Lib.index r [125] + 1).toNat).length : Nat) : Int) = (1 : Int) + Lib.index r [125] + 1 by
                  rw [List.length_drop, List.length_cons]
                  omega]
              · rw [if_neg h0, hn.2 h0]
            obtain ⟨n, b, hgo⟩ : ∃ n b, gapOut (c :: r) = .tuple #[.int .i64 n, .bool b] := by
              unfold gapOut
              split
              · exact ⟨_, _, rfl⟩
              · exact ⟨_, _, rfl⟩
            rw [hgo] at c5 ⊢
            have hx : (c.toNat : Int) = 123 := by rw [h4]; rfl
            rw [hx] at x0 c1
            generalize Lib.indexByte [32, 9, 10, 13] c = i at *
            generalize (⟨(c :: r).toArray⟩ : ByteArray) = s at *
            clear hb hl hg h1 h2 h3 hgo h4 hx
            go_enter Tryz.func68, Tryz.ntmps68
            go_wp2_with fail
            refine (c1 _).mono ?_
            rintro e w1 ⟨rfl, hw1⟩
            subst hw1
            go_wp2_with fail
            refine (c2 _).mono ?_
            rintro e w1 ⟨rfl, hw1⟩
            subst hw1
            go_wp2_with fail
            refine (c4 _).mono ?_
            rintro e w1 ⟨rfl, hw1⟩
            subst hw1
            go_wp2_with fail
            refine c5.mono ?_
            rintro e w1 ⟨rfl, hw1⟩
            subst hw1
            go_wp2
            go_ret2
            exact ⟨rfl, rfl⟩
          · have HO := hide (show gapOut (c :: r) = .tuple #[.int .i64 0, .bool true] by
              unfold gapOut
              rw [gapP, if_neg h1, if_neg h2, if_neg h3, if_neg h4]
              simp)
            have hx : ((c.toNat : Int) == 123) = false := by rw [beq_eq_false_iff_ne]; exact fun h => h4 (u8_eq.2 h)
            generalize Lib.indexByte [32, 9, 10, 13] c = i at *
            generalize gapOut (c :: r) = O at *
            generalize (⟨(c :: r).toArray⟩ : ByteArray) = s at *
            generalize (c.toNat : Int) = x at *
            clear hb hl hg h1 h2 h3 h4
            go_enter Tryz.func68, Tryz.ntmps68
            go_wp2_with fail
            refine (c1 _).mono ?_
            rintro e w1 ⟨rfl, hw1⟩
            subst hw1
            go_wp2_with fail
            refine (c2 _).mono ?_
            rintro e w1 ⟨rfl, hw1⟩
            subst hw1
            go_wp2_with fail
            refine (c4 _).mono ?_
            rintro e w1 ⟨rfl, hw1⟩
            subst hw1
            go_wp2
            go_ret2
            exact ⟨by rw [HO.out]; rfl, rfl⟩
end Go.Proofs.YtkicbmjjbnblfaaGreatDoor
namespace Go.Proofs.YtkicbmjjbnblfaaGreatDoor
open Go.RowKit
theorem wp_scope_loop {P : Program} {a : Act} {w : World} {Q : Exit → Act → World → Prop} {c rest : Code} (l : Nat) (J : Act → World → Prop) (μ : Act → World → Nat) (hf : findLabel c l = some (.seq .skip rest))
    (first : (∀ a w, J a w → rest.wp P (Exit.jump l J Q) a w) → c.wp P (Exit.jump l J Q) a w)
    (pass : ∀ a w, J a w → rest.wp P (Exit.jump l (fun a' w' => J a' w' ∧ μ a' w' < μ a w) Q) a w) : (Code.scope c).wp P Q a w :=
  wp_scope_jumps l J μ hf (first fun a w h => Code.wp_mono (fun e a' w' q => by
    cases e with
    | goto l' => exact ⟨q.1, q.2.1⟩
    | _ => exact q) (pass a w h)) (fun a w h => wp_seq (wp_skip (pass a w h)))
def contT (ts : List (Tk × Nat)) : Except (Nat × Int) (List (Tk × Nat)) → Except (Nat × Int) (List (Tk × Nat))
  | .error e => .error e
  | .ok us => .ok (ts ++ us)
def tkC (L : Nat) (x : Tk × Nat) : List Value := [.int .i64 x.1.kind, .string ⟨x.1.s.toArray⟩, .int .i64 x.1.n, .int .i64 x.1.ty, .int .i64 ((L - x.2 : Nat) : Int)]
/-- the cells of a list of tokens -/
def tksC (L : Nat) (ts : List (Tk × Nat)) : List Value := ts.flatMap (tkC L)
theorem tksC_snoc (L : Nat) (ts : List (Tk × Nat)) (x : Tk × Nat) : tksC L (ts ++ [x]) = tksC L ts ++ tkC L x := by
  unfold tksC; rw [List.flatMap_append]; simp
theorem gap_suf {l r : Bs} (h : gapP l = some r) : r <:+ l := by
  match l, h with
  | [], h => injection h with h; subst h; exact List.suffix_refl _
  | c :: q, h =>
    rw [gapP] at h
    split at h
    · injection h with h; subst h; exact List.suffix_cons _ _
    · split at h
      · injection h with h; subst h; exact line_suf _
      · split at h
        · exact suf_cons c ((note_suf h).trans (suf_tail q))
        · split at h
          · exact suf_cons c (brace_suf h)
          · injection h with h; subst h; exact List.suffix_refl _
theorem suf_drop {r q : Bs} (h : r <:+ q) : r = q.drop (q.length - r.length) := by
  obtain ⟨t, rfl⟩ := h
  rw [List.length_append, Nat.add_sub_cancel, List.drop_left]
theorem toksF_skip {f cnt : Nat} {l r : Bs} (h : skip l = skip r) : toksF (f + 1) cnt l = toksF (f + 1) cnt r := by
  rw [toksF, toksF, h]
theorem toksF_bad {f cnt : Nat} {l : Bs} (h : gapP l = none) : toksF (f + 1) cnt l = .error (l.length, 50) := by
  rw [toksF, skip_gap, h]
theorem toksF_gap {f cnt : Nat} {l r : Bs} (h : gapP l = some r) (hr : r.length ≠ l.length) : toksF (f + 1) cnt l = toksF (f + 1) cnt r := by
  apply toksF_skip
  rw [skip_gap, h]
  simp only []
  rw [if_neg hr]
theorem skip_here {l r : Bs} (h : gapP l = some r) (hr : r.length = l.length) : skip l = .ok l := by
  rw [skip_gap, h]
  simp only []
  rw [if_pos hr]
theorem toksF_long {f cnt : Nat} {l : Bs} (hs : skip l = .ok l) (h : 4096 ≤ cnt) : toksF (f + 1) cnt l = .error (l.length, 2) := by
  rw [toksF, hs]
  simp only [if_pos h]
theorem toksF_end {f cnt : Nat} (h : ¬ 4096 ≤ cnt) : toksF (f + 1) cnt [] = .ok [(endT, 0)] := by
  rw [toksF, skip_nil]
  simp only [if_neg h]
theorem toksF_none {f cnt : Nat} {l : Bs} (hs : skip l = .ok l) (h : ¬ 4096 ≤ cnt) (hl : l ≠ []) (ho : oneTok l = none) : toksF (f + 1) cnt l = .error (l.length, 50) := by
  match l, hl with
  | c :: q, _ =>
    rw [toksF, hs]
    simp only [if_neg h, ho, List.length_cons]
theorem toksF_some {f cnt : Nat} {l r : Bs} {t : Tk} (hs : skip l = .ok l) (h : ¬ 4096 ≤ cnt) (ho : oneTok l = some (t, r)) : toksF (f + 1) cnt l = (match toksF f (cnt + 1) r with | .error e => .error e | .ok ts => .ok ((t, l.length) :: ts)) := by
  match l, ho with
  | c :: q, ho =>
    rw [toksF, hs]
    simp only [if_neg h, ho, List.length_cons]
    rfl
theorem cont_nil (e : Except (Nat × Int) (List (Tk × Nat))) : contT [] e = e := by cases e <;> rfl
theorem owns_below {w w' : World} {base e size n : Nat} {v : Value} {xs : List Value} (h : w.ownsRow base e size v n xs) (hb : Below w.heap.size w w') : w'.ownsRow base e size v n xs := by
  refine ⟨h.1, ?_⟩
  rcases h.2 with h1 | ⟨g, cap, cur, h1, h2, h3, h4⟩
  · exact .inl h1
  · exact .inr ⟨g, cap, cur, h1, h2, (hb.block g (Array.getElem?_eq_some_iff.1 h3).1).trans h3, h4⟩
theorem heap_setCell_ne (W : World) (p : Addr) (v : Value) {g : Nat} (h : g ≠ p.block) : (W.setCell p v).heap[g]? = W.heap[g]? := by
  simp only [World.setCell]
  split <;> simp [Array.getElem?_modify, Ne.symm h]
theorem owns_set2 {W : World} {B e size n : Nat} {v : Value} {xs : List Value} (h : W.ownsRow (B + 1) e size v n xs) (x y : Value) : ((W.setCell ⟨B, 0, none⟩ x).setCell ⟨B, 1, none⟩ y).ownsRow B e size v n xs := by
  refine ⟨h.1, ?_⟩
  rcases h.2 with h1 | ⟨g, cap, cur, h1, h2, h3, h4⟩
  · exact .inl h1
  · exact .inr ⟨g, cap, cur, h1, by omega, by
      rw [heap_setCell_ne _ _ _ (by show g ≠ B; omega), heap_setCell_ne _ _ _ (by show g ≠ B; omega)]
      exact h3, h4⟩
theorem cont_cons (ts : List (Tk × Nat)) (x : Tk × Nat) (e : Except (Nat × Int) (List (Tk × Nat))) : contT ts (match e with | .error e => .error e | .ok us => .ok (x :: us)) = contT (ts ++ [x]) e := by
  cases e with
  | error e => rfl
  | ok us => simp [contT]
theorem one_kind {l r : Bs} {t : Tk} (h : oneTok l = some (t, r)) : t.kind ≠ 4 := by
  have hN : ∀ {ty : Int} {l r : Bs} {t : Tk}, typedN ty l = some (t, r) → t.kind = 2 := by
    intro ty l r t h
    unfold typedN at h
    split at h
    all_goals
      split at h
      · cases h
      · split at h
        · injection h with h; injection h with h1 h2; subst h1; rfl
        · cases h
  have hT : ∀ {w l r : Bs} {t : Tk}, typedL w l = some (t, r) → t.kind = 2 := by
    intro w l r t h
    unfold typedL at h
    split at h
    · cases ht : timeL 6 0 0 l with
      | none => rw [ht] at h; cases h
      | some x => rw [ht] at h; injection h with h; injection h with h1 h2; subst h1; rfl
    · split at h
      · exact hN h
      · split at h
        · exact hN h
        · split at h
          · exact hN h
          · cases h
  match l, h with
  | c :: q, h =>
    unfold oneTok at h
    simp only [] at h
    split at h
    · split at h
      · rw [hT h]; decide
      · split at h
        · injection h with h; injection h with h1 h2; subst h1; exact (show (1 : Int) ≠ 4 by decide)
        · cases h
    · split at h
      · cases hb : based (c :: q) with
        | none => rw [hb] at h; cases h
        | some x => rw [hb] at h; injection h with h; injection h with h1 h2; subst h1; exact (show (2 : Int) ≠ 4 by decide)
      · unfold signL at h
        split at h
        · injection h with h; injection h with h1 h2; subst h1; exact (show (3 : Int) ≠ 4 by decide)
        · split at h
          · cases h
          · split at h
            · injection h with h; injection h with h1 h2; subst h1; exact (show (3 : Int) ≠ 4 by decide)
            · cases h
theorem own_form {w : World} {base e size : Nat} {v : Value} {n : Nat} {xs : List Value} (h : w.ownsRow base e size v n xs) : ∃ a cap, v = .slice a n cap := by
  rcases h.2 with ⟨h1, h2⟩ | ⟨g, cap, cur, h1, _⟩
  · exact ⟨none, 0, by rw [h1, h2]⟩
  · exact ⟨_, _, h1⟩
/-- a fault's block -/
abbrev F2 : Obj := .cells #[.int .i64 0, .int .i64 0] 80
theorem rezF {w W : World} (h : Below (w.heap.size + 1) (w.alloc F2) W) :
    (W.cell? ⟨w.heap.size, 0, none⟩ = some (.int .i64 0) ∧ W.cell? ⟨w.heap.size, 1, none⟩ = some (.int .i64 0)) ∧ (W.frozen? ⟨w.heap.size, 0, none⟩ = false ∧ W.frozen? ⟨w.heap.size, 1, none⟩ = false) := by
  refine ⟨⟨?_, ?_⟩, ?_, ?_⟩
  · exact (h.cell (p := ⟨w.heap.size, 0, none⟩) (by simp)).trans (by simp)
  · exact (h.cell (p := ⟨w.heap.size, 1, none⟩) (by simp)).trans (by simp)
  · exact (h.frozen (p := ⟨w.heap.size, 0, none⟩) (by simp)).trans (by simp)
  · exact (h.frozen (p := ⟨w.heap.size, 1, none⟩) (by simp)).trans (by simp)
theorem in41L : (Tryz.prog.info? 54).map (fun i => (i.zero, i.size, i.bytes)) = some (some (.agg #[.int .i64 0, .string ⟨#[]⟩, .int .i64 0, .int .i64 0, .int .i64 0]), 5, 48) := by kernel_rfl
/-- what Tokens answers -/
def TksOut (base : Nat) (l : Bs) (e : Ending) (w' : World) : Prop := match toks l with
  | .error (n, c) => e = .returned (.tuple #[.slice none 0 0, .agg #[.int .i64 ((l.length - n : Nat) : Int), .int .i64 c]])
  | .ok ts => ∃ v, e = .returned (.tuple #[v, .agg #[.int .i64 0, .int .i64 0]]) ∧ w'.ownsRow base 54 5 v ts.length (tksC l.length ts)
end Go.Proofs.YtkicbmjjbnblfaaGreatDoor
