/- Times, plain: the program's units against the document's; one part of a time. | Typed and untyped numbers, plain; the contracts of num.Fits, lex.value and lex.wordLength. | The contract of lex.timeValue. | What the two readers of a typed number's value answer, in one form. | A token stored whole, as a step of a statement whose order is left open. | Numbers without a type, plain: the program's bases. -/
import Derived.Test.YtkicbmjjbnblfaaGreatDoorUnitW
import Derived.Test.YtkicbmjjbnblfaaGreatDoorLexB
namespace Go.Proofs.YtkicbmjjbnblfaaGreatDoor
open Go.RowKit
def unitLen (u : Nat) : Nat := if u = 4 then 2 else 1
theorem unitF_unfold (l : Bs) : unitF l 5 = if upL (l.take 2) = [77, 83] then 4 else if upL (l.take 1) = [83] then 3 else if upL (l.take 1) = [77] then 2 else if upL (l.take 1) = [72] then 1 else if upL (l.take 1) = [68] then 0 else -1 := by
  simp [unitF, unitNames]
theorem unit_of (l : Bs) : unitF l 5 = (match unitL l with | none => -1 | some (u, _) => (u : Int)) ∧ ∀ u r, unitL l = some (u, r) → u < 5 ∧ r = l.drop (unitLen u) ∧ unitLen u ≤ l.length := by
  rw [unitF_unfold]
  match l with
  | [] => simp [unitL, upL]
  | [c] =>
    unfold unitL
    simp only [upL, List.take_succ_cons, List.take_nil, List.map_cons, List.map_nil, List.cons.injEq, and_true]
    by_cases h1 : upC c = 68
    · simp [h1, unitLen]
    · by_cases h2 : upC c = 72
      · simp [h2, unitLen]
      · by_cases h3 : upC c = 83
        · simp [h3, unitLen]
        · by_cases h4 : upC c = 77
          · simp [h4, unitLen]
          · simp [h1, h2, h3, h4]
  | c :: d :: q =>
    unfold unitL
    simp only [upL, List.take_succ_cons, List.map_cons, List.map_nil, List.cons.injEq, and_true, List.take_zero, List.head?_cons, Option.map_some, Option.some.injEq, List.tail_cons]
    by_cases h1 : upC c = 68
    · simp [h1, unitLen]
    · by_cases h2 : upC c = 72
      · simp [h2, unitLen]
      · by_cases h3 : upC c = 83
        · simp [h3, unitLen]
        · by_cases h4 : upC c = 77
          · by_cases h5 : upC d = 83
            · simp [h4, h5, unitLen]
            · simp [h4, h5, unitLen]
          · simp [h1, h2, h3, h4]
theorem timeP_step {f lo n : Nat} {q : Bs} (hq : ∃ c r, q = c :: r ∧ isDig c = true) : timeP (f + 1) lo n q = (match unitL (cap10 0 q).2 with | none => none | some (u, r2) => if u < lo then none else timeP f (u + 1) (n + (cap10 0 q).1 * unitW u) r2) := by
  obtain ⟨c, r, rfl, hd⟩ := hq
  rw [timeP]
  simp only [if_pos hd]
  rfl
theorem timeP_end {f lo n : Nat} {q : Bs} (hq : ¬ ∃ c r, q = c :: r ∧ isDig c = true) : timeP (f + 1) lo n q = if lo ≠ 0 ∧ goesOn q = false then some (n, q) else none := by
  match q with
  | [] =>
    rw [timeP]
    by_cases h : lo = 0
    · simp [h]
    · simp [h, goesOn]
  | c :: r =>
    have hd : isDig c = false := by
      cases h : isDig c with
      | false => rfl
      | true => exact absurd ⟨c, r, rfl, h⟩ hq
    rw [timeP]
    simp only [hd, Bool.false_eq_true, if_false, goesOn, Bool.false_or]
    by_cases h : lo = 0
    · simp [h]
    · by_cases h2 : c = 95
      · simp [h2]
      · simp [h, h2]
/-- what lex.timeValue answers -/
def TvOut (l : Bs) (o : Option (Nat × Bs)) (v : Value) : Prop :=
  match o with
  | some (n, r) => v = .tuple #[.int .i64 (n : Int), .int .i64 ((l.length - r.length : Nat) : Int), .bool true]
  | none => ∃ n k, v = .tuple #[.int .i64 n, .int .i64 k, .bool false]
theorem index_mem (l : Bs) (c : UInt8) : (0 ≤ Lib.indexByte l c) ↔ c ∈ l := by
  induction l with
  | nil => simp [Lib.indexByte]
  | cons b l ih =>
    have hge := Lib.indexByte_ge l c
    unfold Lib.indexByte
    by_cases h : b = c
    · simp [h]
    · have h' : ¬ c = b := fun e => h e.symm
      simp only [beq_iff_eq, h, if_false, List.mem_cons, h', false_or]
      rw [← ih]
      split <;> omega
/-- one part of a time, by places -/
theorem part_facts (l : Bs) (k : Nat) (hk : k ≤ l.length) : ∃ len, k + len ≤ l.length ∧ (l.drop k).length - (pd 10 false 0 (l.drop k)).2.length = len ∧
    ((95 : UInt8) ∈ (l.drop k).take len → unitL (cap10 0 (l.drop k)).2 = none) ∧
    ((95 : UInt8) ∉ (l.drop k).take len → pd 10 false 0 (l.drop k) = cap10 0 (l.drop k) ∧ (cap10 0 (l.drop k)).2 = l.drop (k + len)) := by
  obtain ⟨j, hj, e⟩ := pd_suf 10 (l.drop k) false 0
  rw [List.length_drop] at hj
  have hz : (l.drop k).length - (pd 10 false 0 (l.drop k)).2.length = j := by rw [e]; simp only [List.length_drop]; omega
  refine ⟨j, by omega, hz, fun h => ?_, fun h => ?_⟩
  · obtain ⟨r, hr⟩ := pd_under (l.drop k) false 0 (by rw [hz]; exact h)
    rw [hr]
    rfl
  · have h1 := pd_cap (l.drop k) false 0 (by rw [hz]; exact h)
    exact ⟨h1, by rw [← h1, e, List.drop_drop]⟩
end Go.Proofs.YtkicbmjjbnblfaaGreatDoor
namespace Go.Proofs.YtkicbmjjbnblfaaGreatDoor
open Go.RowKit
def tyBL (t : Int) : Bool := decide (1 ≤ t) && decide (t ≤ 4)
def fitB (t n : Int) : Bool := if t = 1 then decide (n = 0) || decide (n = 1) else tyBL t && (decide (([0, 0, -32768, -2147483648, -2147483648] : List Int).getD t.toNat 0 ≤ n) && decide (n ≤ ([0, 1, 32767, 2147483647, 2147483647] : List Int).getD t.toNat 0))
theorem fit_L {t n : Int} (h : t = 1 ∨ t = 2 ∨ t = 3) : fitB t n = fitL t n := by
  rcases h with rfl | rfl | rfl
  · rfl
  · show (true && (decide ((-32768 : Int) ≤ n) && decide (n ≤ 32767))) = (decide (-32768 ≤ n) && decide (n ≤ 32767))
    rfl
  · show (true && (decide ((-2147483648 : Int) ≤ n) && decide (n ≤ 2147483647))) = (decide (-2147483648 ≤ n) && decide (n ≤ 2147483647))
    rfl
theorem fit_T (n : Nat) : fitB 4 (n : Int) = decide (n < 2147483648) := by
  show (true && (decide ((-2147483648 : Int) ≤ (n : Int)) && decide ((n : Int) ≤ 2147483647))) = _
  rw [Bool.eq_iff_iff]; simp; omega
set_option maxRecDepth 100000 in
theorem isType_anyL (t : Int) (w : World) : Calls Tryz.prog 77 #[.int .i64 t] w fun e w' => e = .returned (.bool (tyBL t)) ∧ w' = w := by
  have E := hide (show tyBL t = (decide (1 ≤ t) && decide (t ≤ 4)) from rfl)
  by_cases h1 : 1 ≤ t
  · by_cases h2 : t ≤ 4
    · rw [E.out, decide_eq_true h1, decide_eq_true h2]
      clear E
      go_enter Tryz.func77, Tryz.ntmps77
      go_wp2
      go_ret
      exact ⟨rfl, rfl⟩
    · rw [E.out, decide_eq_true h1, decide_eq_false h2]
      clear E
      go_enter Tryz.func77, Tryz.ntmps77
      go_wp2
      go_ret
      exact ⟨rfl, rfl⟩
  · rw [E.out, decide_eq_false h1]
    clear E
    go_enter Tryz.func77, Tryz.ntmps77
    go_wp2
    go_ret
    exact ⟨rfl, rfl⟩
set_option maxRecDepth 100000 in
theorem fits_any (t n : Int) (ht : t = 1 ∨ t = 2 ∨ t = 3 ∨ t = 4) (w : World) (hg : TabAt w 3 spanTab) : Calls Tryz.prog 65 #[.int .i64 t, .int .i64 n] w fun e w' => e = .returned (.bool (fitB t n)) ∧ w' = w := by
  have g0 := hg 2 _ rfl
  have g1 := hg 3 _ rfl
  have g2 := hg 4 _ rfl
  have g3 := hg 5 _ rfl
  have g4 := hg 6 _ rfl
  have g5 := hg 7 _ rfl
  have g6 := hg 8 _ rfl
  have g7 := hg 9 _ rfl
  clear hg
  have c := isType_anyL t
  have E1 := hide (show fitB 1 n = (decide (0 ≤ n) && decide (n ≤ 1)) by
    show (decide (n = 0) || decide (n = 1)) = _
    rw [Bool.eq_iff_iff]; simp; omega)
  have E2 := hide (show fitB 2 n = (decide (-32768 ≤ n) && decide (n ≤ 32767)) from rfl)
  have E3 := hide (show fitB 3 n = (decide (-2147483648 ≤ n) && decide (n ≤ 2147483647)) from rfl)
  have E4 := hide (show fitB 4 n = (decide (-2147483648 ≤ n) && decide (n ≤ 2147483647)) from rfl)
  rcases ht with rfl | rfl | rfl | rfl
  all_goals
    go_enter Tryz.func65, Tryz.ntmps65
    go_wp2_with fail
    refine (c _).mono ?_
    rintro e w1 ⟨rfl, rfl⟩
    go_wp2
  all_goals
    go_ret
    refine ⟨ret_bool ?_, rfl⟩
    first
      | (rw [E1.out, Bool.eq_iff_iff]; simp; omega)
      | (rw [E2.out, Bool.eq_iff_iff]; simp; omega)
      | (rw [E3.out, Bool.eq_iff_iff]; simp; omega)
      | (rw [E4.out, Bool.eq_iff_iff]; simp; omega)
/-- what lex.value answers -/
def valOut (l : Bs) : Value := if l.head? = some 45 then .tuple #[.int .i64 (-((pd 10 false 0 l.tail).1 : Int)), .int .i64 ((1 + (l.tail.length - (pd 10 false 0 l.tail).2.length) : Nat) : Int), .bool (okP 10 l.tail)] else numOut 10 l
set_option maxRecDepth 100000 in
set_option maxHeartbeats 1600000 in
theorem value_any (l : Bs) (hl : l.length ≤ 140737488355000) (w : World) : Calls Tryz.prog 107 #[.string ⟨l.toArray⟩] w fun e w' => e = .returned (valOut l) ∧ w' = w := by
  have c0 := fun W => Tryz.strings_CutPrefix ⟨l.toArray⟩ ⟨#[45]⟩ W
  have c0' : ∀ W, Calls Tryz.prog 97 #[.string ⟨l.toArray⟩, .string ⟨#[45]⟩] W fun e w' => e = .returned (.tuple #[.string ⟨(Lib.trimPrefix l [45]).toArray⟩, .bool (Lib.hasPrefix l [45])]) ∧ w' = W := c0
  clear c0
  by_cases hm : l.head? = some 45
  · obtain ⟨q, rfl⟩ : ∃ q, l = 45 :: q := by
      match l, hm with
      | c :: q, hm => injection hm with hm; exact ⟨q, by rw [hm]⟩
    have HV := hide (show valOut (45 :: q) = .tuple #[.int .i64 (-((pd 10 false 0 q).1 : Int)), .int .i64 (1 + ((q.length - (pd 10 false 0 q).2.length : Nat) : Int)), .bool (okP 10 q)] by
      unfold valOut
      rw [if_pos hm]
      simp only [List.tail_cons]
      rw [show ((1 + (q.length - (pd 10 false 0 q).2.length) : Nat) : Int) = 1 + ((q.length - (pd 10 false 0 q).2.length : Nat) : Int) by omega])
    have e1 : Lib.trimPrefix (45 :: q) [45] = q := by simp [Lib.trimPrefix, Lib.hasPrefix, List.isPrefixOf]
    have e2 : Lib.hasPrefix (45 :: q) [45] = true := by simp [Lib.hasPrefix, List.isPrefixOf]
    rw [e1, e2] at c0'
    have c1 := fun W => number_any q (by simp at hl; omega) 10 (by omega) (by omega) W
    unfold numOut at c1
    have hz : ((q.length - (pd 10 false 0 q).2.length : Nat) : Int) ≤ 140737488355000 := by simp at hl; omega
    have hz0 : (0 : Int) ≤ ((q.length - (pd 10 false 0 q).2.length : Nat) : Int) := by omega
    have hm1 := (pd_ge (base := 10) (by omega) q false 0 (by omega)).2
    have hm2 : ((pd 10 false 0 q).1 : Int) ≤ 4294967296 := by omega
    have hm3 : (0 : Int) ≤ ((pd 10 false 0 q).1 : Int) := by omega
    generalize ((pd 10 false 0 q).1 : Int) = m at *
    generalize ((q.length - (pd 10 false 0 q).2.length : Nat) : Int) = z at *
    generalize okP 10 q = b at *
    generalize (⟨q.toArray⟩ : ByteArray) = t at *
    generalize (⟨(45 :: q).toArray⟩ : ByteArray) = s at *
    clear e1 e2 hl hm1
    go_enter Tryz.func107, Tryz.ntmps107
    go_wp2_with fail
    refine (c0' _).mono ?_
    rintro e w1 ⟨rfl, rfl⟩
    go_wp2_with fail
    refine (c1 _).mono ?_
    rintro e w1 ⟨rfl, rfl⟩
    go_wp2
    refine bodyPost_ret (v := valOut (45 :: q)) ?_ rfl ⟨rfl, rfl⟩
    rw [HV.out]
    simp [results, Tryz.results107, go_sem]
  · have HV := hide (show valOut l = numOut 10 l by unfold valOut; rw [if_neg hm])
    have e2 : Lib.hasPrefix l [45] = false := by
      match l, hm with
      | [], _ => rfl
      | c :: q, hm =>
        show ((45 : UInt8) == c && _) = false
        rw [Bool.and_eq_false_iff]
        left
        rw [beq_eq_false_iff_ne]
        intro h
        exact hm (by rw [← h]; rfl)
    rw [e2] at c0'
    have c1 := fun W => number_any l (by omega) 10 (by omega) (by omega) W
    rw [HV.out]
    unfold numOut at c1 ⊢
    generalize ((pd 10 false 0 l).1 : Int) = m at *
    generalize ((l.length - (pd 10 false 0 l).2.length : Nat) : Int) = z at *
    generalize okP 10 l = b at *
    generalize (⟨(Lib.trimPrefix l [45]).toArray⟩ : ByteArray) = t at *
    generalize (⟨l.toArray⟩ : ByteArray) = s at *
    clear e2 hl hm HV
    go_enter Tryz.func107, Tryz.ntmps107
    go_wp2_with fail
    refine (c0' _).mono ?_
    rintro e w1 ⟨rfl, rfl⟩
    go_wp2_with fail
    refine (c1 _).mono ?_
    rintro e w1 ⟨rfl, rfl⟩
    go_wp2
    refine bodyPost_ret (v := .tuple #[.int .i64 m, .int .i64 z, .bool b]) ?_ rfl ⟨rfl, rfl⟩
    simp [results, Tryz.results107, go_sem]
theorem word_step {l : Bs} {k : Nat} (h : k < l.length) (hw : isWord l[k] = true) : (wordL (l.drop k)).length = (wordL (l.drop (k + 1))).length + 1 := by
  rw [drop_at h]
  show ((l[k] :: l.drop (k + 1)).takeWhile isWord).length = _
  rw [List.takeWhile_cons, if_pos hw]
  rfl
theorem word_stop {l : Bs} {k : Nat} (h : ¬ ∃ hk : k < l.length, isWord (l[k]'hk) = true) : (wordL (l.drop k)).length = 0 := by
  by_cases hk : k < l.length
  · rw [drop_at hk]
    show ((l[k] :: l.drop (k + 1)).takeWhile isWord).length = _
    rw [List.takeWhile_cons, if_neg (fun e => h ⟨hk, e⟩)]
    rfl
  · rw [List.drop_eq_nil_of_le (by omega)]; rfl
set_option maxRecDepth 100000 in
set_option maxHeartbeats 1600000 in
theorem wordLength_any (l : Bs) (hl : l.length ≤ 140737488355000) (w : World) : Calls Tryz.prog 95 #[.string ⟨l.toArray⟩] w fun e w' => e = .returned (.int .i64 ((wordL l).length : Int)) ∧ w' = w := by
  have hsz := hide (list_size l)
  have hidx : Hid (∀ k (h : k < l.length) W, (Instr.index 9 (.string ⟨l.toArray⟩) (.int .i64 (k : Int))).run Tryz.prog W = .ok (.int .u8 (l[k].toNat : Int)) W) := fun k h W => run_idx ⟨l.toArray⟩ k l[k] (List.getElem?_eq_getElem h) W
  have hd := fun (c : UInt8) W => isDigit_any c W
  have he := fun (c : UInt8) W => isLetter_any c W
  generalize (⟨l.toArray⟩ : ByteArray) = s at *
  have HL := hide hl
  clear hl
  go_enter Tryz.func95, Tryz.ntmps95
  go_wp2_with fail
  go_loop [3] (fun i => ∃ k : Nat, k ≤ l.length ∧ i = .int .i64 (k : Int) ∧ Hid ((wordL l).length = k + (wordL (l.drop k)).length)) (fun i => l.length - (intOf i).toNat)
  case atStart => exact ⟨0, by omega, rfl, by show _ = _; simp⟩
  case round =>
    obtain ⟨k, hk, rfl, hh⟩ := hrel
    by_cases hlt : k < l.length
    · have i1 : (k : Int) < (s.size : Int) := by have := hsz.out; omega
      have j1 : (k : Int) ≤ 140737488355000 := by have := HL.out; omega
      have x0 := hidx.out k hlt
      have c0 := hd l[k]
      have c1 := he l[k]
      have hw : isWord l[k] = (isLet l[k] || isDig l[k]) := rfl
      have hs := hide (fun h => word_step (l := l) (k := k) hlt h)
      have ht := hide (fun h : ¬ isWord l[k] = true => word_stop (l := l) (k := k) (fun ⟨_, e⟩ => h e))
      generalize (l[k].toNat : Int) = x at *
      generalize isWord l[k] = b at *
      generalize isLet l[k] = b1 at *
      generalize isDig l[k] = b2 at *
      cases b1 with
      | true =>
        have hb : b = true := by rw [hw]; rfl
        clear hw c0
        go_wp2_with fail
        refine (c1 _).mono ?_
        rintro e w1 ⟨rfl, rfl⟩
        go_wp2
        go_round
        case rel => exact ⟨k + 1, by omega, by go_num, by show _ = _; have := hs.out hb; have := hh.out; omega⟩
        case measure => simp only [intOf]; omega
      | false =>
        cases b2 with
        | true =>
          have hb : b = true := by rw [hw]; rfl
          clear hw
          go_wp2_with fail
          refine (c1 _).mono ?_
          rintro e w1 ⟨rfl, rfl⟩
          go_wp2_with fail
          refine (c0 _).mono ?_
          rintro e w1 ⟨rfl, rfl⟩
          go_wp2
          go_round
          case rel => exact ⟨k + 1, by omega, by go_num, by show _ = _; have := hs.out hb; have := hh.out; omega⟩
          case measure => simp only [intOf]; omega
        | false =>
          have hb : ¬ b = true := by rw [hw]; decide
          clear hw
          go_wp2_with fail
          refine (c1 _).mono ?_
          rintro e w1 ⟨rfl, rfl⟩
          go_wp2_with fail
          refine (c0 _).mono ?_
          rintro e w1 ⟨rfl, rfl⟩
          go_wp2
          go_ret
          exact ⟨ret_int (by have := ht.out hb; have := hh.out; omega), rfl⟩
    · have i1 : ¬ (k : Int) < (s.size : Int) := by have := hsz.out; omega
      have ht := word_stop (l := l) (k := k) (fun ⟨h, _⟩ => hlt h)
      have HT := hide ht
      clear ht
      go_wp2
      go_ret
      exact ⟨ret_int (by have := HT.out; have := hh.out; omega), rfl⟩
end Go.Proofs.YtkicbmjjbnblfaaGreatDoor
namespace Go.Proofs.YtkicbmjjbnblfaaGreatDoor
open Go.RowKit
set_option maxRecDepth 100000 in
set_option maxHeartbeats 3200000 in
theorem timeValue_any (l : Bs) (hl : l.length ≤ 140737488355000) (w : World) (hg : Glo w) : Calls Tryz.prog 108 #[.string ⟨l.toArray⟩] w fun e w' => (∃ v, e = .returned v ∧ TvOut l (timeP 6 0 0 l) v) ∧ Below w.heap.size w w' := by
  have HG := hide hg
  have hsz := hide (list_size l)
  have hidx : Hid (∀ k (h : k < l.length) W, (Instr.index 9 (.string ⟨l.toArray⟩) (.int .i64 (k : Int))).run Tryz.prog W = .ok (.int .u8 (l[k].toNat : Int)) W) := fun k h W => run_idx ⟨l.toArray⟩ k l[k] (List.getElem?_eq_getElem h) W
  have HX : Hid (∀ (n : Nat), n ≤ l.length → ∀ W : World, (Instr.slice 9 (.string ⟨l.toArray⟩) (some (.int .i64 (n : Int))) none none).run Tryz.prog W = .ok (.string ⟨(l.drop n).toArray⟩) W) := fun n h W => slice_from ⟨l.toArray⟩ n (by rw [list_size]; exact h) W
  have HM : Hid (∀ (a b : Nat), a ≤ b → b ≤ l.length → ∀ W : World, (Instr.slice 9 (.string ⟨l.toArray⟩) (some (.int .i64 (a : Int))) (some (.int .i64 (b : Int))) none).run Tryz.prog W = .ok (.string ⟨((l.drop a).take (b - a)).toArray⟩) W) := fun a b h h2 W => slice_mid ⟨l.toArray⟩ a b h (by rw [list_size]; exact h2) W
  have HD := hide fun (k : Nat) (W : World) => digits_any (l.drop k) (by rw [List.length_drop]; omega) 10 (by omega) (by omega) W
  have HU := hide fun (k : Nat) (W : World) (h : Glo W) => unitOf_any (l.drop k) W h
  have HI := hide fun (b : Bs) (W : World) => Tryz.strings_IndexByte ⟨b.toArray⟩ 95 W
  have HE := hide fun (k : Nat) (W : World) => goesOn_any (l.drop k) W
  have hd := fun (c : UInt8) W => isDigit_any c W
  generalize (⟨l.toArray⟩ : ByteArray) = s at *
  have HL := hide hl
  clear hl hg
  go_enter Tryz.func108, Tryz.ntmps108
  go_wp2_with fail
  go_loopw [5, 6, 7] (fun a b c wr => ∃ k lo n f : Nat, 5 ≤ f + lo ∧ k ≤ l.length ∧ lo ≤ 5 ∧ a = .int .i64 (n : Int) ∧ b = .int .i64 (k : Int) ∧ c = .int .i64 (lo : Int) ∧ Hid (n ≤ lo * 371085174374400000 ∧ timeP (f + 1) lo n (l.drop k) = timeP 6 0 0 l ∧ (lo = 0 ↔ k = 0) ∧ Below w.heap.size w wr)) (fun _ _ c _ => 5 - (intOf c).toNat)
  case atStart => exact ⟨0, 0, 0, 5, by omega, by omega, by omega, rfl, rfl, rfl, by omega, rfl, by simp, Below.refl _ _⟩
  case round =>
    obtain ⟨k, lo, n, f, hf, hk, hlo, rfl, rfl, rfl, hh⟩ := hrel
    by_cases hlt : k < l.length
    · have i1 : (k : Int) < (s.size : Int) := by have := hsz.out; omega
      have x0 := hidx.out k hlt
      have c0 := hd l[k]
      by_cases hdig : isDig l[k] = true
      · rw [hdig] at c0
        have hq : ∃ c r, l.drop k = c :: r ∧ isDig c = true := ⟨l[k], l.drop (k + 1), drop_at hlt, hdig⟩
        generalize (l[k].toNat : Int) = c at *
        obtain ⟨len, hlen, hz, p1, p2⟩ := part_facts l k hk
        have x1 := HX.out k hk
        have c1 := HD.out k
        unfold pdOut at c1
        rw [hz] at c1
        have hmle := (pd_ge (base := 10) (by omega) (l.drop k) false 0 (by omega)).2
        have x2 := HM.out k (k + len) (by omega) hlen
        rw [Nat.add_sub_cancel_left] at x2
        have c2 := HI.out ((l.drop k).take len)
        obtain ⟨m, HMm⟩ : ∃ m, Hid ((pd 10 false 0 (l.drop k)).1 = m) := ⟨_, rfl⟩
        rw [HMm.out] at c1 hmle
        have hT := timeP_step (f := f) (lo := lo) (n := n) hq
        rw [hh.out.2.1] at hT
        have j1 : (k : Int) ≤ 140737488355000 := by have := HL.out; omega
        have j2 : (len : Int) ≤ 140737488355000 := by have := HL.out; omega
        have j3 : (0 : Int) ≤ (len : Int) := by omega
        rw [show ((k + len : Nat) : Int) = (k : Int) + (len : Int) by omega] at x2
        by_cases hu : (95 : UInt8) ∈ (l.drop k).take len
        · have hT2 := p1 hu
          rw [hT2] at hT
          have i2 : 0 ≤ Lib.indexByte ((l.drop k).take len) 95 := (index_mem _ _).2 hu
          have c2' : ∀ W, Calls Tryz.prog 78 #[.string ⟨((l.drop k).take len).toArray⟩, .int .u8 95] W fun e w' => e = .returned (.int .i64 (Lib.indexByte ((l.drop k).take len) 95)) ∧ w' = W := c2
          clear c2 p1 p2 hT2 hu hq
          generalize Lib.indexByte ((l.drop k).take len) 95 = ib at *
          generalize (⟨((l.drop k).take len).toArray⟩ : ByteArray) = t at *
          generalize (⟨(l.drop k).toArray⟩ : ByteArray) = q at *
          have HT := hide hT
          clear hT hz
          go_wp2_with fail
          refine (c0 _).mono ?_
          rintro e w1 ⟨rfl, rfl⟩
          go_wp2_with fail
          refine (c1 _).mono ?_
          rintro e w1 ⟨rfl, rfl⟩
          go_wp2_with fail
          refine (c2' _).mono ?_
          rintro e w1 ⟨rfl, rfl⟩
          go_wp2
          refine bodyPost_ret (v := .tuple #[.int .i64 0, .int .i64 0, .bool false]) ?_ rfl ⟨⟨_, rfl, ?_⟩, hh.out.2.2.2⟩
          · simp [results, Tryz.results108, go_sem]
          · rw [HT.out]; exact ⟨_, _, rfl⟩
        · obtain ⟨q1, q2⟩ := p2 hu
          have hm2 : (cap10 0 (l.drop k)).1 = m := by rw [← q1]; exact HMm.out
          rw [q2, hm2] at hT
          have i2 : ¬ 0 ≤ Lib.indexByte ((l.drop k).take len) 95 := fun h => hu ((index_mem _ _).1 h)
          have c2' : ∀ W, Calls Tryz.prog 78 #[.string ⟨((l.drop k).take len).toArray⟩, .int .u8 95] W fun e w' => e = .returned (.int .i64 (Lib.indexByte ((l.drop k).take len) 95)) ∧ w' = W := c2
          have x3 := HX.out (k + len) hlen
          have c3 := fun W h => HU.out (k + len) W h
          obtain ⟨u1, u2⟩ := unit_of (l.drop (k + len))
          rw [u1] at c3
          rw [show ((k + len : Nat) : Int) = (k : Int) + (len : Int) by omega] at x3
          clear c2 p1 p2 hu hq q1 q2 hm2 HMm u1
          generalize Lib.indexByte ((l.drop k).take len) 95 = ib at *
          generalize (⟨((l.drop k).take len).toArray⟩ : ByteArray) = t at *
          generalize (⟨(l.drop k).toArray⟩ : ByteArray) = q at *
          generalize (⟨(l.drop (k + len)).toArray⟩ : ByteArray) = q2 at *
          have m0 : (0 : Int) ≤ (m : Int) := by omega
          have m1 : (m : Int) ≤ 4294967296 := by omega
          have n0 : (0 : Int) ≤ (n : Int) := by omega
          have n1 : (n : Int) ≤ 5 * 371085174374400000 := by
            have h1 := hh.out.1
            have : lo * 371085174374400000 ≤ 5 * 371085174374400000 := Nat.mul_le_mul_right _ hlo
            omega
          have gw : Glo wr := HG.out.below hh.out.2.2.2 HG.out.lt
          cases hul : unitL (l.drop (k + len)) with
          | none =>
            rw [hul] at hT c3
            have HT := hide hT
            have i3 : (-1 : Int) < (lo : Int) := by omega
            clear hT u2 hz hul
            go_wp2_with fail
            refine (c0 _).mono ?_
            rintro e w1 ⟨rfl, rfl⟩
            go_wp2_with fail
            refine (c1 _).mono ?_
            rintro e w1 ⟨rfl, rfl⟩
            go_wp2_with fail
            refine (c2' _).mono ?_
            rintro e w1 ⟨rfl, rfl⟩
            go_wp2_with fail
            refine (c3 _ gw).mono ?_
            rintro e w1 ⟨rfl, hb1⟩
            have B1 := hide (hh.out.2.2.2.trans (hb1.mono hh.out.2.2.2.size))
            clear hb1
            go_wp2
            refine bodyPost_ret (v := .tuple #[.int .i64 0, .int .i64 0, .bool false]) ?_ rfl ⟨⟨_, rfl, ?_⟩, B1.out⟩
            · simp [results, Tryz.results108, go_sem]
            · rw [HT.out]; exact ⟨_, _, rfl⟩
          | some y =>
            obtain ⟨u, r2⟩ := y
            rw [hul] at hT c3
            obtain ⟨v1, v2, v3⟩ := u2 u r2 hul
            rw [List.length_drop] at v3
            rw [List.drop_drop] at v2
            subst v2
            simp only [] at hT c3
            clear u2 hul hz
            by_cases hulo : u < lo
            · rw [if_pos hulo] at hT
              have HT := hide hT
              have i3 : (u : Int) < (lo : Int) := by omega
              clear hT
              go_wp2_with fail
              refine (c0 _).mono ?_
              rintro e w1 ⟨rfl, rfl⟩
              go_wp2_with fail
              refine (c1 _).mono ?_
              rintro e w1 ⟨rfl, rfl⟩
              go_wp2_with fail
              refine (c2' _).mono ?_
              rintro e w1 ⟨rfl, rfl⟩
              go_wp2_with fail
              refine (c3 _ gw).mono ?_
              rintro e w1 ⟨rfl, hb1⟩
              have B1 := hide (hh.out.2.2.2.trans (hb1.mono hh.out.2.2.2.size))
              clear hb1
              go_wp2
              refine bodyPost_ret (v := .tuple #[.int .i64 0, .int .i64 0, .bool false]) ?_ rfl ⟨⟨_, rfl, ?_⟩, B1.out⟩
              · simp [results, Tryz.results108, go_sem]
              · rw [HT.out]; exact ⟨_, _, rfl⟩
            · rw [if_neg hulo] at hT
              have HT := hide hT
              have i3 : ¬ (u : Int) < (lo : Int) := by omega
              clear hT
              have hlast : n + m * unitW u ≤ (u + 1) * 371085174374400000 := by
                have h1 := hh.out.1
                have h2 := (unitW_pos u).2
                have h3 : m * unitW u ≤ 4294967296 * 86400000 := Nat.mul_le_mul hmle h2
                have h4 : lo * 371085174374400000 ≤ u * 371085174374400000 := Nat.mul_le_mul_right _ (by omega)
                have h5 : (u + 1) * 371085174374400000 = u * 371085174374400000 + 371085174374400000 := by rw [Nat.add_mul]
                omega
              have HN := hide hlast
              obtain ⟨f', rfl⟩ : ∃ f', f = f' + 1 := ⟨f - 1, by omega⟩
              have hul2 : u = 0 ∨ u = 1 ∨ u = 2 ∨ u = 3 ∨ u = 4 := by omega
              clear hlast
              go_wp2_with fail
              refine (c0 _).mono ?_
              rintro e w1 ⟨rfl, rfl⟩
              go_wp2_with fail
              refine (c1 _).mono ?_
              rintro e w1 ⟨rfl, rfl⟩
              go_wp2_with fail
              refine (c2' _).mono ?_
              rintro e w1 ⟨rfl, rfl⟩
              go_wp2_with fail
              refine (c3 _ gw).mono ?_
              rintro e w1 ⟨rfl, hb1⟩
              have B1 := hide (hh.out.2.2.2.trans (hb1.mono hh.out.2.2.2.size))
              have g1 := HG.out.below B1.out HG.out.lt
              clear hb1 c0 c1 c2' c3 x0 x1 x2 x3 HX HM HD HU HI HE hd hidx
              rcases hul2 with rfl | rfl | rfl | rfl | rfl
              · have t0 := g1.unit 0 _ rfl
                have t1 := g1.unit 1 _ rfl
                clear g1
                go_wp2
                refine ⟨⟨k + len + unitLen 0, 0 + 1, n + m * unitW 0, f', by omega, by omega, by omega, ?_, ?_, rfl, HN.out, HT.out.symm, by simp [unitLen], B1.out⟩, ?_⟩
                · congr 1
                · congr 1
                · simp only [intOf]; omega
              · have t0 := g1.unit 2 _ rfl
                have t1 := g1.unit 3 _ rfl
                clear g1
                go_wp2
                refine ⟨⟨k + len + unitLen 1, 1 + 1, n + m * unitW 1, f', by omega, by omega, by omega, ?_, ?_, rfl, HN.out, HT.out.symm, by simp [unitLen], B1.out⟩, ?_⟩
                · congr 1
                · congr 1
                · simp only [intOf]; omega
              · have t0 := g1.unit 4 _ rfl
                have t1 := g1.unit 5 _ rfl
                clear g1
                go_wp2
                refine ⟨⟨k + len + unitLen 2, 2 + 1, n + m * unitW 2, f', by omega, by omega, by omega, ?_, ?_, rfl, HN.out, HT.out.symm, by simp [unitLen], B1.out⟩, ?_⟩
                · congr 1
                · congr 1
                · simp only [intOf]; omega
              · have t0 := g1.unit 6 _ rfl
                have t1 := g1.unit 7 _ rfl
                clear g1
                go_wp2
                refine ⟨⟨k + len + unitLen 3, 3 + 1, n + m * unitW 3, f', by omega, by omega, by omega, ?_, ?_, rfl, HN.out, HT.out.symm, by simp [unitLen], B1.out⟩, ?_⟩
                · congr 1
                · congr 1
                · simp only [intOf]; omega
              · have t0 := g1.unit 8 _ rfl
                have t1 := g1.unit 9 _ rfl
                clear g1
                go_wp2
                refine ⟨⟨k + len + unitLen 4, 4 + 1, n + m * unitW 4, f', by omega, by omega, by omega, ?_, ?_, rfl, HN.out, HT.out.symm, by simp [unitLen], B1.out⟩, ?_⟩
                · congr 1
                  show _ = ((n + m * 1 : Nat) : Int)
                  omega
                · congr 1
                · simp only [intOf]; omega
      · rw [show isDig l[k] = false by simpa using hdig] at c0
        have hq : ¬ ∃ c r, l.drop k = c :: r ∧ isDig c = true := by
          rintro ⟨c, r, e, h⟩
          rw [drop_at hlt] at e
          injection e with e1 e2
          rw [e1] at hdig
          exact hdig h
        have hT := timeP_end (f := f) (lo := lo) (n := n) hq
        rw [hh.out.2.1] at hT
        clear hq hdig
        generalize (l[k].toNat : Int) = c at *
        by_cases hk0 : k = 0
        · have hlo0 : lo = 0 := hh.out.2.2.1.2 hk0
          have HT := hide (show timeP 6 0 0 l = none by rw [hT, if_neg (fun h => h.1 hlo0)])
          have i3 : ¬ (0 : Int) < (k : Int) := by omega
          clear hT hlo0 hk0 HE HX
          go_wp2_with fail
          refine (c0 _).mono ?_
          rintro e w1 ⟨rfl, rfl⟩
          go_wp2
          refine bodyPost_ret (v := .tuple #[.int .i64 (n : Int), .int .i64 (k : Int), .bool false]) ?_ rfl ⟨⟨_, rfl, ?_⟩, hh.out.2.2.2⟩
          · simp [results, Tryz.results108, go_sem]
          · rw [HT.out]; exact ⟨_, _, rfl⟩
        · have hlo0 : lo ≠ 0 := fun h => hk0 (hh.out.2.2.1.1 h)
          have i3 : (0 : Int) < (k : Int) := by omega
          have x1 := HX.out k hk
          have c1 := HE.out k
          have HT := hide (show timeP 6 0 0 l = if goesOn (l.drop k) = false then some (n, l.drop k) else none by
            rw [hT]
            by_cases hgo : goesOn (l.drop k) = false
            · rw [if_pos ⟨hlo0, hgo⟩, if_pos hgo]
            · rw [if_neg (fun h => hgo h.2), if_neg hgo])
          have HK : Hid (((l.length - (l.drop k).length : Nat) : Int) = (k : Int)) := by
            show _ = _
            rw [List.length_drop]; omega
          clear hT hlo0 hk0 HE HX
          obtain ⟨g, HGo⟩ : ∃ g, Hid (goesOn (l.drop k) = g) := ⟨_, rfl⟩
          rw [HGo.out] at c1
          generalize (⟨(l.drop k).toArray⟩ : ByteArray) = q at *
          go_wp2_with fail
          refine (c0 _).mono ?_
          rintro e w1 ⟨rfl, rfl⟩
          go_wp2_with fail
          refine (c1 _).mono ?_
          rintro e w1 ⟨rfl, rfl⟩
          go_wp2
          refine bodyPost_ret (v := .tuple #[.int .i64 (n : Int), .int .i64 (k : Int), .bool (!g)]) ?_ rfl ⟨⟨_, rfl, ?_⟩, hh.out.2.2.2⟩
          · simp [results, Tryz.results108, go_sem]
          · rw [HT.out, HGo.out]
            cases g
            · rw [if_pos rfl]
              show _ = _
              rw [HK.out]
              rfl
            · rw [if_neg (by decide)]
              exact ⟨_, _, rfl⟩
    · have hq : ¬ ∃ c r, l.drop k = c :: r ∧ isDig c = true := by
        rintro ⟨c, r, e, h⟩
        rw [List.drop_eq_nil_of_le (by omega)] at e
        cases e
      have i1 : ¬ (k : Int) < (s.size : Int) := by have := hsz.out; omega
      have hT := timeP_end (f := f) (lo := lo) (n := n) hq
      rw [hh.out.2.1] at hT
      clear hq
      by_cases hk0 : k = 0
      · have hlo0 : lo = 0 := hh.out.2.2.1.2 hk0
        have HT := hide (show timeP 6 0 0 l = none by rw [hT, if_neg (fun h => h.1 hlo0)])
        have i3 : ¬ (0 : Int) < (k : Int) := by omega
        clear hT hlo0 hk0 HE HX
        go_wp2
        refine bodyPost_ret (v := .tuple #[.int .i64 (n : Int), .int .i64 (k : Int), .bool false]) ?_ rfl ⟨⟨_, rfl, ?_⟩, hh.out.2.2.2⟩
        · simp [results, Tryz.results108, go_sem]
        · rw [HT.out]; exact ⟨_, _, rfl⟩
      · have hlo0 : lo ≠ 0 := fun h => hk0 (hh.out.2.2.1.1 h)
        have i3 : (0 : Int) < (k : Int) := by omega
        have x1 := HX.out k hk
        have c1 := HE.out k
        have HT := hide (show timeP 6 0 0 l = if goesOn (l.drop k) = false then some (n, l.drop k) else none by
          rw [hT]
          by_cases hgo : goesOn (l.drop k) = false
          · rw [if_pos ⟨hlo0, hgo⟩, if_pos hgo]
          · rw [if_neg (fun h => hgo h.2), if_neg hgo])
        have HK : Hid (((l.length - (l.drop k).length : Nat) : Int) = (k : Int)) := by
          show _ = _
          rw [List.length_drop]; omega
        clear hT hlo0 hk0 HE HX
        obtain ⟨g, HGo⟩ : ∃ g, Hid (goesOn (l.drop k) = g) := ⟨_, rfl⟩
        rw [HGo.out] at c1
        generalize (⟨(l.drop k).toArray⟩ : ByteArray) = q at *
        go_wp2_with fail
        refine (c1 _).mono ?_
        rintro e w1 ⟨rfl, rfl⟩
        go_wp2
        refine bodyPost_ret (v := .tuple #[.int .i64 (n : Int), .int .i64 (k : Int), .bool (!g)]) ?_ rfl ⟨⟨_, rfl, ?_⟩, hh.out.2.2.2⟩
        · simp [results, Tryz.results108, go_sem]
        · rw [HT.out, HGo.out]
          cases g
          · rw [if_pos rfl]
            show _ = _
            rw [HK.out]
            rfl
          · rw [if_neg (by decide)]
            exact ⟨_, _, rfl⟩
end Go.Proofs.YtkicbmjjbnblfaaGreatDoor
namespace Go.Proofs.YtkicbmjjbnblfaaGreatDoor
open Go.RowKit
/-- a value that was read, and what it is as a token of a type -/
def RVs (ty : Int) (l : Bs) (o : Option (Tk × Bs)) (n z : Int) (b : Bool) : Prop :=
  (b = true ∧ fitB ty n = true ∧ ∃ r, o = some (numT n ty, r) ∧ z = ((l.length - r.length : Nat) : Int)) ∨ ((b && fitB ty n) = false ∧ o = none)
theorem typedN_val {ty : Int} (ht : ty = 1 ∨ ty = 2 ∨ ty = 3) (l : Bs) : ∃ n z b, valOut l = .tuple #[.int .i64 n, .int .i64 z, .bool b] ∧ RVs ty l (typedN ty l) n z b ∧ (-4294967296 ≤ n ∧ n ≤ 4294967296) ∧ 0 ≤ z ∧ z ≤ (l.length : Int) := by
  by_cases hm : l.head? = some 45
  · obtain ⟨q, rfl⟩ : ∃ q, l = 45 :: q := by
      match l, hm with
      | c :: q, hm => injection hm with hm; exact ⟨q, by rw [hm]⟩
    have hv : valOut (45 :: q) = .tuple #[.int .i64 (-((pd 10 false 0 q).1 : Int)), .int .i64 ((1 + (q.length - (pd 10 false 0 q).2.length) : Nat) : Int), .bool (okP 10 q)] := by
      unfold valOut
      rw [if_pos hm]
      simp only [List.tail_cons]
    have hle := (pd_ge (base := 10) (by omega) q false 0 (by omega)).2
    refine ⟨_, _, _, hv, ?_, by omega, by omega, by simp; omega⟩
    unfold typedN
    rw [if_pos hm]
    simp only [List.tail_cons]
    rw [digs_num (by omega) (by omega) (by omega) (by omega)]
    unfold RVs
    rw [fit_L ht]
    by_cases hb : okP 10 q = true
    · by_cases hf : fitL ty (-((pd 10 false 0 q).1 : Int)) = true
      · have hr := fit_range5 hf
        rw [if_pos ⟨hb, by omega⟩]
        simp only [hf, if_true]
        left
        refine ⟨hb, trivial, _, rfl, ?_⟩
        have := pd_len 10 q false 0
        rw [List.length_cons]
        omega
      · right
        refine ⟨by rw [hb]; simpa using hf, ?_⟩
        split <;> simp_all
    · right
      refine ⟨by simp [hb], ?_⟩
      rw [if_neg (fun h => hb h.1)]
  · have hv : valOut l = .tuple #[.int .i64 ((pd 10 false 0 l).1 : Int), .int .i64 ((l.length - (pd 10 false 0 l).2.length : Nat) : Int), .bool (okP 10 l)] := by
      unfold valOut
      rw [if_neg hm]
      rfl
    have hle := (pd_ge (base := 10) (by omega) l false 0 (by omega)).2
    refine ⟨_, _, _, hv, ?_, by omega, by omega, by omega⟩
    unfold typedN
    rw [if_neg hm]
    rw [digs_num (by omega) (by omega) (by omega) (by omega)]
    unfold RVs
    rw [fit_L ht]
    by_cases hb : okP 10 l = true
    · by_cases hf : fitL ty ((pd 10 false 0 l).1 : Int) = true
      · have hr := fit_range5 hf
        rw [if_pos ⟨hb, by omega⟩]
        simp only [hf, if_true]
        left
        exact ⟨hb, trivial, _, rfl, rfl⟩
      · right
        refine ⟨by rw [hb]; simpa using hf, ?_⟩
        split <;> simp_all
    · right
      refine ⟨by simp [hb], ?_⟩
      rw [if_neg (fun h => hb h.1)]
theorem typedT_val (l : Bs) {v : Value} (h : TvOut l (timeP 6 0 0 l) v) : ∃ n z b, v = .tuple #[.int .i64 n, .int .i64 z, .bool b] ∧ RVs 4 l ((timeL 6 0 0 l).map fun x => (numT x.1 4, x.2)) n z b := by
  rw [time_pd 6 0 0 l (by omega)]
  unfold TvOut at h
  cases ht : timeP 6 0 0 l with
  | none =>
    rw [ht] at h
    obtain ⟨n, k, rfl⟩ := h
    exact ⟨n, k, false, rfl, .inr ⟨rfl, rfl⟩⟩
  | some x =>
    obtain ⟨m, r⟩ := x
    rw [ht] at h
    refine ⟨_, _, _, h, ?_⟩
    unfold RVs
    rw [fit_T]
    by_cases hm : m < 2147483648
    · left
      simp only [if_pos hm]
      exact ⟨trivial, decide_eq_true hm, r, rfl, rfl⟩
    · right
      simp only [if_neg hm]
      exact ⟨by rw [decide_eq_false hm]; rfl, rfl⟩
def tyNames : List Bs := [[66, 79, 79, 76], [73, 78, 84], [68, 73, 78, 84], [84], [84, 73, 77, 69]]
def tyNos : List Int := [1, 2, 3, 4, 4]
theorem ty_tab (k : Nat) (h : k < 5) : tyTab.toArray.extract (k * 2) (k * 2 + 2) = #[.string ⟨(tyNames[k]'h).toArray⟩, .int .i64 (tyNos[k]'h)] := by
  have : k = 0 ∨ k = 1 ∨ k = 2 ∨ k = 3 ∨ k = 4 := by omega
  rcases this with rfl | rfl | rfl | rfl | rfl <;> rfl
theorem ty_at (k : Nat) (h : k < 5) (l : Bs) : typedL (tyNames[k]'h) l = if tyNos[k]'h = 4 then (timeL 6 0 0 l).map fun x => (numT x.1 4, x.2) else typedN (tyNos[k]'h) l := by
  have : k = 0 ∨ k = 1 ∨ k = 2 ∨ k = 3 ∨ k = 4 := by omega
  rcases this with rfl | rfl | rfl | rfl | rfl <;> simp [typedL, tyNames, tyNos]
theorem ty_no (k : Nat) (h : k < 5) : (tyNos[k]'h) = 4 ∨ (tyNos[k]'h) = 1 ∨ (tyNos[k]'h) = 2 ∨ (tyNos[k]'h) = 3 := by
  have : k = 0 ∨ k = 1 ∨ k = 2 ∨ k = 3 ∨ k = 4 := by omega
  rcases this with rfl | rfl | rfl | rfl | rfl <;> simp [tyNos]
theorem ty_none {name : Bs} (h : name ∉ tyNames) (l : Bs) : typedL name l = none := by
  simp only [tyNames, List.mem_cons, List.not_mem_nil, or_false, not_or] at h
  obtain ⟨h1, h2, h3, h4, h5⟩ := h
  unfold typedL
  rw [if_neg (by rintro (e | e) <;> contradiction), if_neg h1, if_neg h2, if_neg h3]
end Go.Proofs.YtkicbmjjbnblfaaGreatDoor
namespace Go.Proofs.YtkicbmjjbnblfaaGreatDoor
open Go.RowKit
theorem below_setCells (B g : Nat) (hg : B ≤ g) : ∀ (vs : List Value) (o : Nat) (w : World), Below B w (w.setCells g o vs)
  | [], _, w => Below.refl _ _
  | v :: r, o, w => by
    rw [World.setCells]
    exact (((Below.refl B w).setCell (p := ⟨g, o, none⟩) hg v)).trans (below_setCells B g hg r (o + 1) _)
/-- what is held of the worlds of such a statement: the row's cell that is read, the result's block, the table of spans -/
def SI (w : World) (g : Nat) (W : World) : Prop := W.there g 0 5 ∧ TabAt W 3 spanTab ∧ Below w.heap.size w W
theorem SI.drew {w : World} {g : Nat} {W : World} (h : SI w g W) : SI w g W.drew := ⟨(World.there_drew W g 0 5).2 h.1, h.2.1, h.2.2.drew⟩
theorem size54 : (Tryz.prog.info? 54).map (·.size) = some 5 := by kernel_rfl
/-- the result's cells, behind the store -/
def Five (g : Nat) (c0 c1 c2 c3 c4 : Value) (W : World) : Prop := W.cell? ⟨g, 0, none⟩ = some c0 ∧ W.cell? ⟨g, 1, none⟩ = some c1 ∧ W.cell? ⟨g, 2, none⟩ = some c2 ∧ W.cell? ⟨g, 3, none⟩ = some c3 ∧ W.cell? ⟨g, 4, none⟩ = some c4
theorem stored {w W : World} {g : Nat} (hS : SI w g W) (h5 : 5 < w.heap.size) (hg : w.heap.size ≤ g) (c0 c1 c2 c3 c4 : Value) : Five g c0 c1 c2 c3 c4 (W.setCells g 0 [c0, c1, c2, c3, c4]) ∧ SI w g (W.setCells g 0 [c0, c1, c2, c3, c4]) ∧ ∀ p : Addr, p.block ≠ g → (W.setCells g 0 [c0, c1, c2, c3, c4]).cell? p = W.cell? p := by
  have hin := World.cell?_setCells_in g [c0, c1, c2, c3, c4] 0 W (fun j hj => (hS.1 j hj).1)
  have hout : ∀ p : Addr, p.block ≠ g → (W.setCells g 0 [c0, c1, c2, c3, c4]).cell? p = W.cell? p := fun p hp => World.cell?_setCells_out g _ 0 W p (fun e => absurd e hp)
  refine ⟨⟨hin 0 (by simp), hin 1 (by simp), hin 2 (by simp), hin 3 (by simp), hin 4 (by simp)⟩, ⟨World.there_setCells hS.1 g 0 _, fun k v e => ?_, hS.2.2.trans (below_setCells _ g hg _ 0 W)⟩, hout⟩
  exact (hout ⟨3, k, none⟩ (by show 3 ≠ g; omega)).trans (hS.2.1 k v e)
theorem step_store5 {ops : Array Oper} {a : Act} {W w : World} {K : Act → World → Prop} {Q : Exit → Act → World → Prop} {E : Prop} {dst : Option Tmp} {ty' : TypeId} {x y : Operand} {pos : String} {after : Array Edge} {g : Nat} {c0 c1 c2 c3 c4 : Value}
    (hS : SI w g W) (h5 : 5 < w.heap.size) (hg : w.heap.size ≤ g) (hx : a.eval x = .pointer (some ⟨g, 0, none⟩)) (hy : a.eval y = .agg #[c0, c1, c2, c3, c4]) (h1 : (#[c0, c1, c2, c3, c4] : Array Value).all (·.oneCell') = true)
    (h : ∀ W', Five g c0 c1 c2 c3 c4 W' → SI w g W' → (∀ p : Addr, p.block ≠ g → W'.cell? p = W.cell? p) → K (a.put dst undef) W') :
    if Region.wanted { dst := dst, op := .store 54 x y, type := ty', pos := pos, after := after, guard := none } (yielded ops a.tmps) = true then Oper.wp Tryz.prog { dst := dst, op := .store 54 x y, type := ty', pos := pos, after := after, guard := none } a W K Q else E := by
  rw [if_pos (by simp [Region.wanted])]
  unfold Oper.wp execOp
  simp only [hx, hy, Instr.storeAt, Instr.sureAddr, Sem.run_bind, Sem.run_pure, Result.andThen_ok, run_storeVar_mid (P := Tryz.prog) W g 0 54 #[c0, c1, c2, c3, c4] hS.1 size54 h1]
  obtain ⟨s1, s2, s3⟩ := stored hS h5 hg c0 c1 c2 c3 c4
  exact h _ s1 s2 s3
theorem there5 {w W : World} (h : Below (w.heap.size + 1) (w.alloc (.cells #[.int .i64 0, .string ⟨#[]⟩, .int .i64 0, .int .i64 0, .int .i64 0] 54)) W) : W.there w.heap.size 0 5 := fun j hj => by
  rw [Nat.zero_add, h.cell (p := ⟨w.heap.size, j, none⟩) (by simp), h.frozen (p := ⟨w.heap.size, j, none⟩) (by simp)]
  have : j = 0 ∨ j = 1 ∨ j = 2 ∨ j = 3 ∨ j = 4 := by omega
  rcases this with rfl | rfl | rfl | rfl | rfl <;> simp
end Go.Proofs.YtkicbmjjbnblfaaGreatDoor
namespace Go.Proofs.YtkicbmjjbnblfaaGreatDoor
open Go.RowKit
def baseNames : List Bs := [[50, 35], [56, 35], [49, 54, 35]]
def baseNos : List Nat := [2, 8, 16]
theorem base_tab (k : Nat) (h : k < 3) : baseTab.toArray.extract (k * 2) (k * 2 + 2) = #[.string ⟨(baseNames[k]'h).toArray⟩, .int .i64 ((baseNos[k]'h : Nat) : Int)] := by
  have : k = 0 ∨ k = 1 ∨ k = 2 := by omega
  rcases this with rfl | rfl | rfl <;> rfl
theorem base_no (k : Nat) (h : k < 3) : 2 ≤ baseNos[k]'h ∧ baseNos[k]'h ≤ 16 := by
  have : k = 0 ∨ k = 1 ∨ k = 2 := by omega
  rcases this with rfl | rfl | rfl <;> simp [baseNos]
theorem base_len (k : Nat) (h : k < 3) : 2 ≤ (baseNames[k]'h).length ∧ (baseNames[k]'h).length ≤ 3 := by
  have : k = 0 ∨ k = 1 ∨ k = 2 := by omega
  rcases this with rfl | rfl | rfl <;> simp [baseNames]
/-- what a based number is -/
def basedP (base : Nat) (l : Bs) : Option (Int × Bs) := if okP base l = true ∧ (pd base false 0 l).1 ≤ 4294967295 then some (low32 (pd base false 0 l).1, (pd base false 0 l).2) else none
theorem pre_take (g l : Bs) : g.isPrefixOf l = decide (l.take g.length = g) := by
  rw [Bool.eq_iff_iff, List.isPrefixOf_iff_prefix, List.prefix_iff_eq_take, decide_eq_true_eq]
  exact eq_comm
theorem digs_based {base : Nat} (h2 : 2 ≤ base) (h16 : base ≤ 16) (l : Bs) : ((digs base 4294967295 false 0 l).map fun x => (low32 x.1, x.2)) = basedP base l := by
  rw [digs_num (by omega) (by omega) (by omega) (by omega)]
  unfold basedP
  split <;> rfl
theorem based_at (k : Nat) (h : k < 3) (l : Bs) (hp : (baseNames[k]'h).isPrefixOf l = true) : based l = basedP (baseNos[k]'h) (l.drop (baseNames[k]'h).length) := by
  have : k = 0 ∨ k = 1 ∨ k = 2 := by omega
  rcases this with rfl | rfl | rfl
  · rw [pre_take] at hp
    have hp : l.take 2 = [50, 35] := of_decide_eq_true hp
    unfold based
    rw [if_pos hp, digs_based (by omega) (by omega)]
    rfl
  · rw [pre_take] at hp
    have hp : l.take 2 = [56, 35] := of_decide_eq_true hp
    unfold based
    rw [if_neg (by rw [hp]; decide), if_pos hp, digs_based (by omega) (by omega)]
    rfl
  · rw [pre_take] at hp
    have hp : l.take 3 = [49, 54, 35] := of_decide_eq_true hp
    have h2 : l.take 2 = [49, 54] := by
      have := congrArg (List.take 2) hp
      rwa [List.take_take] at this
    unfold based
    rw [if_neg (by rw [h2]; decide), if_neg (by rw [h2]; decide), if_pos hp, digs_based (by omega) (by omega)]
    rfl
theorem based_none (l : Bs) (h : ∀ k (hk : k < 3), (baseNames[k]'hk).isPrefixOf l = false) : based l = if okP 10 l = true ∧ (pd 10 false 0 l).1 ≤ 2147483648 then some (((pd 10 false 0 l).1 : Int), (pd 10 false 0 l).2) else none := by
  have h0 : ¬ l.take 2 = [50, 35] := fun e => by have := h 0 (by omega); rw [pre_take] at this; exact absurd e (of_decide_eq_false this)
  have h1 : ¬ l.take 2 = [56, 35] := fun e => by have := h 1 (by omega); rw [pre_take] at this; exact absurd e (of_decide_eq_false this)
  have h2 : ¬ l.take 3 = [49, 54, 35] := fun e => by have := h 2 (by omega); rw [pre_take] at this; exact absurd e (of_decide_eq_false this)
  unfold based
  rw [if_neg h0, if_neg h1, if_neg h2, digs_num (by omega) (by omega) (by omega) (by omega)]
  split <;> rfl
end Go.Proofs.YtkicbmjjbnblfaaGreatDoor
