/- The contract of lex.gap; skipping by gaps. -/
import Derived.Test.YtkicbmjjbnblfaaDoorGapW
namespace Go.Proofs.YtkicbmjjbnblfaaDoor
open Go.RowKit
theorem gap_len {l r : Bs} (h : gapP l = some r) : r.length ≤ l.length := by
  match l, h with
  | [], h => injection h with h; subst h; exact Nat.le_refl _
  | c :: q, h =>
    rw [gapP] at h
    split at h
    · injection h with h; subst h; simp
    · split at h
      · injection h with h; subst h; exact toLine_len _
      · split at h
        · have := pastNote_len h
          have := tail_len q
          simp; omega
        · split at h
          · have := pastBrace_len h
            simp; omega
          · injection h with h; subst h; exact Nat.le_refl _
theorem skip_gap (l : Bs) : skip l = (match gapP l with | none => .error l | some r => if r.length = l.length then .ok l else skip r) := by
  match l with
  | [] => rfl
  | c :: r =>
    rw [skip_cons, gapP]
    by_cases h1 : isBlk c = true
    · rw [if_pos h1, if_pos h1]
      simp
    · rw [if_neg h1, if_neg h1]
      by_cases h2 : c = 47 ∧ r.head? = some 47
      · have h40 : ¬ (c = 40 ∧ r.head? = some 42) := fun h => by rw [h2.1] at h; exact absurd h.1 (by decide)
        have hl : toLine (c :: r) = toLine r := by rw [toLine, if_neg (by rw [h2.1]; decide)]
        rw [if_neg h40, if_pos h2, if_pos h2, hl]
        have := toLine_len r
        simp only [List.length_cons]
        rw [if_neg (by omega)]
      · rw [if_neg h2, if_neg h2]
        by_cases h3 : c = 40 ∧ r.head? = some 42
        · rw [if_pos h3, if_pos h3]
          cases hn : pastNote r.tail with
          | none => rfl
          | some q =>
            have h4 := pastNote_len hn
            have h5 := tail_len r
            simp only [List.length_cons]
            rw [if_neg (by omega)]
        · rw [if_neg h3, if_neg h3]
          by_cases h4 : c = 123
          · rw [if_pos h4, if_pos h4]
            cases hn : pastBrace r with
            | none => rfl
            | some q =>
              have h5 := pastBrace_len hn
              simp only [List.length_cons]
              rw [if_neg (by omega)]
          · rw [if_neg h4, if_neg h4]
            simp
theorem pre_two (a b c : UInt8) (r : Bs) : List.isPrefixOf [a, b] (c :: r) = decide (c = a ∧ r.head? = some b) := by
  match r with
  | [] => simp [List.isPrefixOf]
  | d :: q =>
    rw [Bool.eq_iff_iff]
    simp [List.isPrefixOf]
    constructor
    · rintro ⟨rfl, rfl⟩; exact ⟨rfl, rfl⟩
    · rintro ⟨rfl, rfl⟩; exact ⟨rfl, rfl⟩
set_option maxRecDepth 100000 in
set_option maxHeartbeats 3200000 in
theorem gap_any (l : Bs) (hl : l.length ≤ 65536) (w : World) (hg : Glo w) : Calls Tryd.prog 49 #[.string ⟨l.toArray⟩] w fun e w' => e = .returned (gapOut l) ∧ w' = w := by
  match l with
  | [] =>
    clear hg hl
    go_enter Tryd.func49, Tryd.ntmps49
    go_wp2
    go_ret2
    exact ⟨rfl, rfl⟩
  | c :: r =>
    have hne := ne_empty c r
    have x0 : ∀ W, (Instr.index 9 (.string ⟨(c :: r).toArray⟩) (.int .i64 0)).run Tryd.prog W = .ok (.int .u8 (c.toNat : Int)) W := run_idx ⟨(c :: r).toArray⟩ 0 c rfl
    have c1 : ∀ W, Calls Tryd.prog 64 #[.string ⟨#[32, 9, 10, 13]⟩, .int .u8 (c.toNat : Int)] W fun e w' => e = .returned (.int .i64 (Lib.indexByte [32, 9, 10, 13] c)) ∧ w' = W := fun W => by
      have := Tryd.strings_IndexByte ⟨#[32, 9, 10, 13]⟩ (c.toNat : Int) W
      rw [Int.toNat_natCast, show c.toNat.toUInt8 = c from UInt8.ofNat_toNat] at this
      exact this
    have hb := blk_idx c
    by_cases h1 : isBlk c = true
    · have i1 : 0 ≤ Lib.indexByte [32, 9, 10, 13] c := of_decide_eq_true (hb.trans h1)
      have HO := hide (show gapOut (c :: r) = .tuple #[.int .i64 1, .bool true] by
        unfold gapOut
        rw [gapP, if_pos h1]
        simp only [List.length_cons]
        rw [show r.length + 1 - r.length = 1 by omega]
        rfl)
      generalize Lib.indexByte [32, 9, 10, 13] c = i at *
      generalize gapOut (c :: r) = O at *
      generalize (⟨(c :: r).toArray⟩ : ByteArray) = s at *
      generalize (c.toNat : Int) = x at *
      clear hb hl hg h1
      go_enter Tryd.func49, Tryd.ntmps49
      go_wp2_with fail
      refine (c1 _).mono ?_
      rintro e w1 ⟨rfl, hw1⟩
      subst hw1
      go_wp2
      go_ret2
      exact ⟨by rw [HO.out]; rfl, rfl⟩
    · have i1 : ¬ 0 ≤ Lib.indexByte [32, 9, 10, 13] c := fun h => h1 (hb ▸ decide_eq_true h)
      have c2 : ∀ W, Calls Tryd.prog 65 #[.string ⟨(c :: r).toArray⟩, .string ⟨#[47, 47]⟩] W fun e w' => e = .returned (.bool (List.isPrefixOf [47, 47] (c :: r))) ∧ w' = W := fun W => Tryd.strings_HasPrefix ⟨(c :: r).toArray⟩ ⟨#[47, 47]⟩ W
      rw [pre_two] at c2
      by_cases h2 : c = 47 ∧ r.head? = some 47
      · rw [decide_eq_true h2] at c2
        have c3 := fun W => line_any (c :: r) W
        have HO := hide (show gapOut (c :: r) = .tuple #[.int .i64 (((c :: r).length - (toLine (c :: r)).length : Nat) : Int), .bool true] by
          unfold gapOut
          rw [gapP, if_neg h1, if_pos h2])
        generalize (((c :: r).length - (toLine (c :: r)).length : Nat) : Int) = z at *
        generalize Lib.indexByte [32, 9, 10, 13] c = i at *
        generalize gapOut (c :: r) = O at *
        generalize (⟨(c :: r).toArray⟩ : ByteArray) = s at *
        generalize (c.toNat : Int) = x at *
        clear hb hl hg h1 h2
        go_enter Tryd.func49, Tryd.ntmps49
        go_wp2_with fail
        refine (c1 _).mono ?_
        rintro e w1 ⟨rfl, hw1⟩
        subst hw1
        go_wp2_with fail
        refine (c2 _).mono ?_
        rintro e w1 ⟨rfl, hw1⟩
        subst hw1
        go_wp2_with fail
        refine (c3 _).mono ?_
        rintro e w1 ⟨rfl, hw1⟩
        subst hw1
        go_wp2
        go_ret2
        exact ⟨by rw [HO.out]; rfl, rfl⟩
      · rw [decide_eq_false h2] at c2
        have c4 : ∀ W, Calls Tryd.prog 65 #[.string ⟨(c :: r).toArray⟩, .string ⟨#[40, 42]⟩] W fun e w' => e = .returned (.bool (List.isPrefixOf [40, 42] (c :: r))) ∧ w' = W := fun W => Tryd.strings_HasPrefix ⟨(c :: r).toArray⟩ ⟨#[40, 42]⟩ W
        rw [pre_two] at c4
        by_cases h3 : c = 40 ∧ r.head? = some 42
        · rw [decide_eq_true h3] at c4
          obtain ⟨q, rfl⟩ : ∃ q, r = 42 :: q := by
            match r, h3.2 with
            | d :: q, h => injection h with h; exact ⟨q, by rw [h]⟩
          have c5 : Calls Tryd.prog 67 #[.string ⟨(c :: 42 :: q).toArray⟩, .string ⟨#[40, 42]⟩, .string ⟨#[42, 41]⟩] w fun e w' => e = .returned (gapOut (c :: 42 :: q)) ∧ w' = w := by
            have h := enclosed_any (c :: 42 :: q) [40, 42] [42, 41] hl (by simp) (by simp) w hg
            refine h.mono fun e w' ⟨e1, e2⟩ => ⟨?_, e2⟩
            rw [e1]
            congr 1
            have hn := note_idx q
            unfold gapOut
            rw [gapP, if_neg h1, if_neg h2, if_pos h3]
            simp only [List.tail_cons]
            show (if 0 ≤ Lib.index q [42, 41] then _ else _) = _
            by_cases h0 : 0 ≤ Lib.index q [42, 41]
            · obtain ⟨n1, n2⟩ := hn.1 h0
              rw [if_pos h0, n2]
              show Value.tuple #[.int .i64 ((2 : Int) + Lib.index q [42, 41] + 2), .bool true] = Value.tuple #[.int .i64 (((c :: 42 :: q).length - (q.drop (Lib.index q [42, 41] + 2).toNat).length : Nat) : Int), .bool true]
              rw [show (((c :: 42 :: q).length - (q.drop (Lib.index q [42, 41] + 2).toNat).length : Nat) : Int) = (2 : Int) + Lib.index q [42, 41] + 2 by
                rw [List.length_drop, List.length_cons, List.length_cons]
                omega]
            · rw [if_neg h0, hn.2 h0]
          obtain ⟨n, b, hgo⟩ : ∃ n b, gapOut (c :: 42 :: q) = .tuple #[.int .i64 n, .bool b] := by
            unfold gapOut
            split
            · exact ⟨_, _, rfl⟩
            · exact ⟨_, _, rfl⟩
          rw [hgo] at c5 ⊢
          generalize Lib.indexByte [32, 9, 10, 13] c = i at *
          generalize (⟨(c :: 42 :: q).toArray⟩ : ByteArray) = s at *
          generalize (c.toNat : Int) = x at *
          clear hb hl hg h1 h2 h3 hgo
          go_enter Tryd.func49, Tryd.ntmps49
          go_wp2_with fail
          refine (c1 _).mono ?_
          rintro e w1 ⟨rfl, hw1⟩
          subst hw1
          go_wp2_with fail
          refine (c2 _).mono ?_
          rintro e w1 ⟨rfl, hw1⟩
          subst hw1
          go_wp2_with fail
          refine (c4 _).mono ?_
          rintro e w1 ⟨rfl, hw1⟩
          subst hw1
          go_wp2_with fail
          refine c5.mono ?_
          rintro e w1 ⟨rfl, hw1⟩
          subst hw1
          go_wp2
          go_ret2
          exact ⟨rfl, rfl⟩
        · rw [decide_eq_false h3] at c4
          by_cases h4 : c = 123
          · have c5 : Calls Tryd.prog 67 #[.string ⟨(c :: r).toArray⟩, .string ⟨#[123]⟩, .string ⟨#[125]⟩] w fun e w' => e = .returned (gapOut (c :: r)) ∧ w' = w := by
              have h := enclosed_any (c :: r) [123] [125] hl (by simp) (by simp) w hg
              refine h.mono fun e w' ⟨e1, e2⟩ => ⟨?_, e2⟩
              rw [e1]
              congr 1
              have hn := brace_idx r
              unfold gapOut
              rw [gapP, if_neg h1, if_neg h2, if_neg h3, if_pos h4]
              show (if 0 ≤ Lib.index r [125] then _ else _) = _
              by_cases h0 : 0 ≤ Lib.index r [125]
              · obtain ⟨n1, n2⟩ := hn.1 h0
                rw [if_pos h0, n2]
                show Value.tuple #[.int .i64 ((1 : Int) + Lib.index r [125] + 1), .bool true] = Value.tuple #[.int .i64 (((c :: r).length - (r.drop (Lib.index r [125] + 1).toNat).length : Nat) : Int), .bool true]
                rw [show (((c :: r).length - (r.drop (Lib.index r [125] + 1).toNat).length : Nat) : Int) = (1 : Int) + Lib.index r [125] + 1 by
                  rw [List.length_drop, List.length_cons]
                  omega]
              · rw [if_neg h0, hn.2 h0]
            obtain ⟨n, b, hgo⟩ : ∃ n b, gapOut (c :: r) = .tuple #[.int .i64 n, .bool b] := by
              unfold gapOut
              split
              · exact ⟨_, _, rfl⟩
              · exact ⟨_, _, rfl⟩
            rw [hgo] at c5 ⊢
            have hx : (c.toNat : Int) = 123 := by rw [h4]; rfl
            rw [hx] at x0 c1
            generalize Lib.indexByte [32, 9, 10, 13] c = i at *
            generalize (⟨(c :: r).toArray⟩ : ByteArray) = s at *
            clear hb hl hg h1 h2 h3 hgo h4 hx
            go_enter Tryd.func49, Tryd.ntmps49
            go_wp2_with fail
            refine (c1 _).mono ?_
            rintro e w1 ⟨rfl, hw1⟩
            subst hw1
            go_wp2_with fail
            refine (c2 _).mono ?_
            rintro e w1 ⟨rfl, hw1⟩
            subst hw1
            go_wp2_with fail
            refine (c4 _).mono ?_
            rintro e w1 ⟨rfl, hw1⟩
            subst hw1
            go_wp2_with fail
            refine c5.mono ?_
            rintro e w1 ⟨rfl, hw1⟩
            subst hw1
            go_wp2
            go_ret2
            exact ⟨rfl, rfl⟩
          · have HO := hide (show gapOut (c :: r) = .tuple #[.int .i64 0, .bool true] by
              unfold gapOut
              rw [gapP, if_neg h1, if_neg h2, if_neg h3, if_neg h4]
              simp)
            have hx : ((c.toNat : Int) == 123) = false := by rw [beq_eq_false_iff_ne]; exact fun h => h4 (u8_eq.2 h)
            generalize Lib.indexByte [32, 9, 10, 13] c = i at *
            generalize gapOut (c :: r) = O at *
            generalize (⟨(c :: r).toArray⟩ : ByteArray) = s at *
            generalize (c.toNat : Int) = x at *
            clear hb hl hg h1 h2 h3 h4
            go_enter Tryd.func49, Tryd.ntmps49
            go_wp2_with fail
            refine (c1 _).mono ?_
            rintro e w1 ⟨rfl, hw1⟩
            subst hw1
            go_wp2_with fail
            refine (c2 _).mono ?_
            rintro e w1 ⟨rfl, hw1⟩
            subst hw1
            go_wp2_with fail
            refine (c4 _).mono ?_
            rintro e w1 ⟨rfl, hw1⟩
            subst hw1
            go_wp2
            go_ret2
            exact ⟨by rw [HO.out]; rfl, rfl⟩
end Go.Proofs.YtkicbmjjbnblfaaDoor
