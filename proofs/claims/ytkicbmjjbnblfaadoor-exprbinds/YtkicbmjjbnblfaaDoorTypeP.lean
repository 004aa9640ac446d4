/- Typed and untyped numbers, plain; the contracts of num.Fits, lex.value and lex.wordLength. -/
import Derived.Test.YtkicbmjjbnblfaaDoorTimeP
namespace Go.Proofs.YtkicbmjjbnblfaaDoor
open Go.RowKit
def tyBL (t : Int) : Bool := decide (1 ≤ t) && decide (t ≤ 4)
def fitB (t n : Int) : Bool := if t = 1 then decide (n = 0) || decide (n = 1) else tyBL t && (decide (([0, 0, -32768, -2147483648, -2147483648] : List Int).getD t.toNat 0 ≤ n) && decide (n ≤ ([0, 1, 32767, 2147483647, 2147483647] : List Int).getD t.toNat 0))
theorem fit_L {t n : Int} (h : t = 1 ∨ t = 2 ∨ t = 3) : fitB t n = fitL t n := by
  rcases h with rfl | rfl | rfl
  · rfl
  · show (true && (decide ((-32768 : Int) ≤ n) && decide (n ≤ 32767))) = (decide (-32768 ≤ n) && decide (n ≤ 32767))
    rfl
  · show (true && (decide ((-2147483648 : Int) ≤ n) && decide (n ≤ 2147483647))) = (decide (-2147483648 ≤ n) && decide (n ≤ 2147483647))
    rfl
theorem fit_T (n : Nat) : fitB 4 (n : Int) = decide (n < 2147483648) := by
  show (true && (decide ((-2147483648 : Int) ≤ (n : Int)) && decide ((n : Int) ≤ 2147483647))) = _
  rw [Bool.eq_iff_iff]; simp; omega
set_option maxRecDepth 100000 in
theorem isType_anyL (t : Int) (w : World) : Calls Tryd.prog 110 #[.int .i64 t] w fun e w' => e = .returned (.bool (tyBL t)) ∧ w' = w := by
  have E := hide (show tyBL t = (decide (1 ≤ t) && decide (t ≤ 4)) from rfl)
  by_cases h1 : 1 ≤ t
  · by_cases h2 : t ≤ 4
    · rw [E.out, decide_eq_true h1, decide_eq_true h2]
      clear E
      go_enter Tryd.func110, Tryd.ntmps110
      go_wp2
      go_ret
      exact ⟨rfl, rfl⟩
    · rw [E.out, decide_eq_true h1, decide_eq_false h2]
      clear E
      go_enter Tryd.func110, Tryd.ntmps110
      go_wp2
      go_ret
      exact ⟨rfl, rfl⟩
  · rw [E.out, decide_eq_false h1]
    clear E
    go_enter Tryd.func110, Tryd.ntmps110
    go_wp2
    go_ret
    exact ⟨rfl, rfl⟩
set_option maxRecDepth 100000 in
theorem fits_any (t n : Int) (ht : t = 1 ∨ t = 2 ∨ t = 3 ∨ t = 4) (w : World) (hg : TabAt w 5 spanTab) : Calls Tryd.prog 84 #[.int .i64 t, .int .i64 n] w fun e w' => e = .returned (.bool (fitB t n)) ∧ w' = w := by
  have g0 := hg 2 _ rfl
  have g1 := hg 3 _ rfl
  have g2 := hg 4 _ rfl
  have g3 := hg 5 _ rfl
  have g4 := hg 6 _ rfl
  have g5 := hg 7 _ rfl
  have g6 := hg 8 _ rfl
  have g7 := hg 9 _ rfl
  clear hg
  have c := isType_anyL t
  have E1 := hide (show fitB 1 n = (decide (0 ≤ n) && decide (n ≤ 1)) by
    show (decide (n = 0) || decide (n = 1)) = _
    rw [Bool.eq_iff_iff]; simp; omega)
  have E2 := hide (show fitB 2 n = (decide (-32768 ≤ n) && decide (n ≤ 32767)) from rfl)
  have E3 := hide (show fitB 3 n = (decide (-2147483648 ≤ n) && decide (n ≤ 2147483647)) from rfl)
  have E4 := hide (show fitB 4 n = (decide (-2147483648 ≤ n) && decide (n ≤ 2147483647)) from rfl)
  rcases ht with rfl | rfl | rfl | rfl
  all_goals
    go_enter Tryd.func84, Tryd.ntmps84
    go_wp2_with fail
    refine (c _).mono ?_
    rintro e w1 ⟨rfl, rfl⟩
    go_wp2
  all_goals
    go_ret
    refine ⟨ret_bool ?_, rfl⟩
    first
      | (rw [E1.out, Bool.eq_iff_iff]; simp; omega)
      | (rw [E2.out, Bool.eq_iff_iff]; simp; omega)
      | (rw [E3.out, Bool.eq_iff_iff]; simp; omega)
      | (rw [E4.out, Bool.eq_iff_iff]; simp; omega)
/-- what lex.value answers -/
def valOut (l : Bs) : Value := if l.head? = some 45 then .tuple #[.int .i64 (-((pd 10 false 0 l.tail).1 : Int)), .int .i64 ((1 + (l.tail.length - (pd 10 false 0 l.tail).2.length) : Nat) : Int), .bool (okP 10 l.tail)] else numOut 10 l
set_option maxRecDepth 100000 in
set_option maxHeartbeats 1600000 in
theorem value_any (l : Bs) (hl : l.length ≤ 140737488355000) (w : World) : Calls Tryd.prog 119 #[.string ⟨l.toArray⟩] w fun e w' => e = .returned (valOut l) ∧ w' = w := by
  have c0 := fun W => Tryd.strings_CutPrefix ⟨l.toArray⟩ ⟨#[45]⟩ W
  have c0' : ∀ W, Calls Tryd.prog 100 #[.string ⟨l.toArray⟩, .string ⟨#[45]⟩] W fun e w' => e = .returned (.tuple #[.string ⟨(Lib.trimPrefix l [45]).toArray⟩, .bool (Lib.hasPrefix l [45])]) ∧ w' = W := c0
  clear c0
  by_cases hm : l.head? = some 45
  · obtain ⟨q, rfl⟩ : ∃ q, l = 45 :: q := by
      match l, hm with
      | c :: q, hm => injection hm with hm; exact ⟨q, by rw [hm]⟩
    have HV := hide (show valOut (45 :: q) = .tuple #[.int .i64 (-((pd 10 false 0 q).1 : Int)), .int .i64 (1 + ((q.length - (pd 10 false 0 q).2.length : Nat) : Int)), .bool (okP 10 q)] by
      unfold valOut
      rw [if_pos hm]
      simp only [List.tail_cons]
      rw [show ((1 + (q.length - (pd 10 false 0 q).2.length) : Nat) : Int) = 1 + ((q.length - (pd 10 false 0 q).2.length : Nat) : Int) by omega])
    have e1 : Lib.trimPrefix (45 :: q) [45] = q := by simp [Lib.trimPrefix, Lib.hasPrefix, List.isPrefixOf]
    have e2 : Lib.hasPrefix (45 :: q) [45] = true := by simp [Lib.hasPrefix, List.isPrefixOf]
    rw [e1, e2] at c0'
    have c1 := fun W => number_any q (by simp at hl; omega) 10 (by omega) (by omega) W
    unfold numOut at c1
    have hz : ((q.length - (pd 10 false 0 q).2.length : Nat) : Int) ≤ 140737488355000 := by simp at hl; omega
    have hz0 : (0 : Int) ≤ ((q.length - (pd 10 false 0 q).2.length : Nat) : Int) := by omega
    have hm1 := (pd_ge (base := 10) (by omega) q false 0 (by omega)).2
    have hm2 : ((pd 10 false 0 q).1 : Int) ≤ 4294967296 := by omega
    have hm3 : (0 : Int) ≤ ((pd 10 false 0 q).1 : Int) := by omega
    generalize ((pd 10 false 0 q).1 : Int) = m at *
    generalize ((q.length - (pd 10 false 0 q).2.length : Nat) : Int) = z at *
    generalize okP 10 q = b at *
    generalize (⟨q.toArray⟩ : ByteArray) = t at *
    generalize (⟨(45 :: q).toArray⟩ : ByteArray) = s at *
    clear e1 e2 hl hm1
    go_enter Tryd.func119, Tryd.ntmps119
    go_wp2_with fail
    refine (c0' _).mono ?_
    rintro e w1 ⟨rfl, rfl⟩
    go_wp2_with fail
    refine (c1 _).mono ?_
    rintro e w1 ⟨rfl, rfl⟩
    go_wp2
    refine bodyPost_ret (v := valOut (45 :: q)) ?_ rfl ⟨rfl, rfl⟩
    rw [HV.out]
    simp [results, Tryd.results119, go_sem]
  · have HV := hide (show valOut l = numOut 10 l by unfold valOut; rw [if_neg hm])
    have e2 : Lib.hasPrefix l [45] = false := by
      match l, hm with
      | [], _ => rfl
      | c :: q, hm =>
        show ((45 : UInt8) == c && _) = false
        rw [Bool.and_eq_false_iff]
        left
        rw [beq_eq_false_iff_ne]
        intro h
        exact hm (by rw [← h]; rfl)
    rw [e2] at c0'
    have c1 := fun W => number_any l (by omega) 10 (by omega) (by omega) W
    rw [HV.out]
    unfold numOut at c1 ⊢
    generalize ((pd 10 false 0 l).1 : Int) = m at *
    generalize ((l.length - (pd 10 false 0 l).2.length : Nat) : Int) = z at *
    generalize okP 10 l = b at *
    generalize (⟨(Lib.trimPrefix l [45]).toArray⟩ : ByteArray) = t at *
    generalize (⟨l.toArray⟩ : ByteArray) = s at *
    clear e2 hl hm HV
    go_enter Tryd.func119, Tryd.ntmps119
    go_wp2_with fail
    refine (c0' _).mono ?_
    rintro e w1 ⟨rfl, rfl⟩
    go_wp2_with fail
    refine (c1 _).mono ?_
    rintro e w1 ⟨rfl, rfl⟩
    go_wp2
    refine bodyPost_ret (v := .tuple #[.int .i64 m, .int .i64 z, .bool b]) ?_ rfl ⟨rfl, rfl⟩
    simp [results, Tryd.results119, go_sem]
theorem word_step {l : Bs} {k : Nat} (h : k < l.length) (hw : isWord l[k] = true) : (wordL (l.drop k)).length = (wordL (l.drop (k + 1))).length + 1 := by
  rw [drop_at h]
  show ((l[k] :: l.drop (k + 1)).takeWhile isWord).length = _
  rw [List.takeWhile_cons, if_pos hw]
  rfl
theorem word_stop {l : Bs} {k : Nat} (h : ¬ ∃ hk : k < l.length, isWord (l[k]'hk) = true) : (wordL (l.drop k)).length = 0 := by
  by_cases hk : k < l.length
  · rw [drop_at hk]
    show ((l[k] :: l.drop (k + 1)).takeWhile isWord).length = _
    rw [List.takeWhile_cons, if_neg (fun e => h ⟨hk, e⟩)]
    rfl
  · rw [List.drop_eq_nil_of_le (by omega)]; rfl
set_option maxRecDepth 100000 in
set_option maxHeartbeats 1600000 in
theorem wordLength_any (l : Bs) (hl : l.length ≤ 140737488355000) (w : World) : Calls Tryd.prog 98 #[.string ⟨l.toArray⟩] w fun e w' => e = .returned (.int .i64 ((wordL l).length : Int)) ∧ w' = w := by
  have hsz := hide (list_size l)
  have hidx : Hid (∀ k (h : k < l.length) W, (Instr.index 9 (.string ⟨l.toArray⟩) (.int .i64 (k : Int))).run Tryd.prog W = .ok (.int .u8 (l[k].toNat : Int)) W) := fun k h W => run_idx ⟨l.toArray⟩ k l[k] (List.getElem?_eq_getElem h) W
  have hd := fun (c : UInt8) W => isDigit_any c W
  have he := fun (c : UInt8) W => isLetter_any c W
  generalize (⟨l.toArray⟩ : ByteArray) = s at *
  have HL := hide hl
  clear hl
  go_enter Tryd.func98, Tryd.ntmps98
  go_wp2_with fail
  go_loop [3] (fun i => ∃ k : Nat, k ≤ l.length ∧ i = .int .i64 (k : Int) ∧ Hid ((wordL l).length = k + (wordL (l.drop k)).length)) (fun i => l.length - (intOf i).toNat)
  case atStart => exact ⟨0, by omega, rfl, by show _ = _; simp⟩
  case round =>
    obtain ⟨k, hk, rfl, hh⟩ := hrel
    by_cases hlt : k < l.length
    · have i1 : (k : Int) < (s.size : Int) := by have := hsz.out; omega
      have j1 : (k : Int) ≤ 140737488355000 := by have := HL.out; omega
      have x0 := hidx.out k hlt
      have c0 := hd l[k]
      have c1 := he l[k]
      have hw : isWord l[k] = (isLet l[k] || isDig l[k]) := rfl
      have hs := hide (fun h => word_step (l := l) (k := k) hlt h)
      have ht := hide (fun h : ¬ isWord l[k] = true => word_stop (l := l) (k := k) (fun ⟨_, e⟩ => h e))
      generalize (l[k].toNat : Int) = x at *
      generalize isWord l[k] = b at *
      generalize isLet l[k] = b1 at *
      generalize isDig l[k] = b2 at *
      cases b1 with
      | true =>
        have hb : b = true := by rw [hw]; rfl
        clear hw c0
        go_wp2_with fail
        refine (c1 _).mono ?_
        rintro e w1 ⟨rfl, rfl⟩
        go_wp2
        go_round
        case rel => exact ⟨k + 1, by omega, by go_num, by show _ = _; have := hs.out hb; have := hh.out; omega⟩
        case measure => simp only [intOf]; omega
      | false =>
        cases b2 with
        | true =>
          have hb : b = true := by rw [hw]; rfl
          clear hw
          go_wp2_with fail
          refine (c1 _).mono ?_
          rintro e w1 ⟨rfl, rfl⟩
          go_wp2_with fail
          refine (c0 _).mono ?_
          rintro e w1 ⟨rfl, rfl⟩
          go_wp2
          go_round
          case rel => exact ⟨k + 1, by omega, by go_num, by show _ = _; have := hs.out hb; have := hh.out; omega⟩
          case measure => simp only [intOf]; omega
        | false =>
          have hb : ¬ b = true := by rw [hw]; decide
          clear hw
          go_wp2_with fail
          refine (c1 _).mono ?_
          rintro e w1 ⟨rfl, rfl⟩
          go_wp2_with fail
          refine (c0 _).mono ?_
          rintro e w1 ⟨rfl, rfl⟩
          go_wp2
          go_ret
          exact ⟨ret_int (by have := ht.out hb; have := hh.out; omega), rfl⟩
    · have i1 : ¬ (k : Int) < (s.size : Int) := by have := hsz.out; omega
      have ht := word_stop (l := l) (k := k) (fun ⟨h, _⟩ => hlt h)
      have HT := hide ht
      clear ht
      go_wp2
      go_ret
      exact ⟨ret_int (by have := HT.out; have := hh.out; omega), rfl⟩
end Go.Proofs.YtkicbmjjbnblfaaDoor
