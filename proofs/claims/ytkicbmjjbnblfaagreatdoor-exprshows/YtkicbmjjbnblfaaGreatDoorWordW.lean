/- The contracts of lex.word and lex.token. -/
import Derived.Test.YtkicbmjjbnblfaaGreatDoorUntypedW
import Derived.Test.YtkicbmjjbnblfaaGreatDoorTypedW
namespace Go.Proofs.YtkicbmjjbnblfaaGreatDoor
open Go.RowKit
theorem word_take (l : Bs) : l.take (wordL l).length = wordL l := by
  unfold wordL
  exact (List.prefix_iff_eq_take.1 (List.takeWhile_prefix isWord)).symm
theorem word_drop (l : Bs) : l.drop (wordL l).length = restL l := by
  have h : wordL l ++ restL l = l := List.takeWhile_append_dropWhile
  have := congrArg (List.drop (wordL l).length) h
  rw [List.drop_left] at this
  exact this.symm
theorem word_le (l : Bs) : (wordL l).length ≤ l.length := by
  have h : wordL l ++ restL l = l := List.takeWhile_append_dropWhile
  have := congrArg List.length h
  rw [List.length_append] at this
  omega
theorem wrap64_nat (n : Nat) (h : n < 9223372036854775808) : wrap64 (n : Int) = (n : Int) := by unfold wrap64; omega
/-- what a text is that begins with a letter -/
def wordO (l : Bs) : Option (Tk × Bs) := if (restL l).head? = some 35 then typedL (upL (wordL l)) (restL l).tail else if (wordL l).length ≤ 24 then some (wordT (upL (wordL l)), restL l) else none
theorem word_long {l : Bs} (h : 24 < (wordL l).length) : wordO l = none := by
  unfold wordO
  rw [if_neg (show ¬ (wordL l).length ≤ 24 by omega)]
  split
  · refine ty_none (fun hm => ?_) _
    have : ∀ g ∈ tyNames, g.length ≤ 4 := by decide
    have := this _ hm
    rw [up_length] at this
    omega
  · rfl
theorem TokOut.form {o : Option (Tk × Bs)} {L : Nat} {v : Value} (h : TokOut o L v) : ∃ t k b, v = .tuple #[tkA t 0, .int .i64 k, .bool b] := by
  match o, h with
  | some (t, r), h => exact ⟨_, _, _, h⟩
  | none, ⟨t, n, h⟩ => exact ⟨_, _, _, h⟩
set_option maxRecDepth 100000 in
set_option maxHeartbeats 3200000 in
theorem word_any (l : Bs) (hl : l.length ≤ 140737488355000) (w : World) (hg : Glo w) : Calls Tryz.prog 83 #[.string ⟨l.toArray⟩] w fun e w' => (∃ v, e = .returned v ∧ TokOut (wordO l) l.length v) ∧ Below w.heap.size w w' := by
  have c0 := fun W => wordLength_any l hl W
  have hle := word_le l
  have hsz := list_size l
  by_cases hlong : 24 < (wordL l).length
  · have HN := hide (word_long hlong)
    have i1 : (24 : Int) < ((wordL l).length : Int) := by omega
    generalize ((wordL l).length : Int) = n at *
    generalize (⟨l.toArray⟩ : ByteArray) = s at *
    clear hlong hle hl hsz hg
    go_enter Tryz.func83, Tryz.ntmps83
    go_wp2_with fail
    refine (c0 _).mono ?_
    rintro e w1 ⟨rfl, hw1⟩
    subst hw1
    go_wp2
    refine bodyPost_ret (v := .tuple #[tkA ⟨0, [], 0, 0⟩ 0, .int .i64 0, .bool false]) ?_ rfl ⟨⟨_, rfl, ?_⟩, ?_⟩
    · simp [results, Tryz.results83, go_sem, tkA]
    · rw [HN.out]; exact ⟨_, _, rfl⟩
    · exact (Below.refl _ _).alloc (Nat.le_refl _) _
  · have x1 : ∀ W, (Instr.slice 9 (.string ⟨l.toArray⟩) none (some (.int .i64 ((wordL l).length : Int))) none).run Tryz.prog W = .ok (.string ⟨(wordL l).toArray⟩) W := fun W => by
      have := slice_to ⟨l.toArray⟩ (wordL l).length (by omega) W
      rw [show (⟨l.toArray⟩ : ByteArray).data.toList = l from rfl, word_take] at this
      exact this
    have x2 : ∀ W, (Instr.slice 9 (.string ⟨l.toArray⟩) (some (.int .i64 ((wordL l).length : Int))) none none).run Tryz.prog W = .ok (.string ⟨(restL l).toArray⟩) W := fun W => by
      have := slice_from ⟨l.toArray⟩ (wordL l).length (by omega) W
      rw [show (⟨l.toArray⟩ : ByteArray).data.toList = l from rfl, word_drop] at this
      exact this
    have c1 := fun W => upper_any (wordL l) (by omega) W
    have c2 : ∀ W, Calls Tryz.prog 97 #[.string ⟨(restL l).toArray⟩, .string ⟨#[35]⟩] W fun e w' => e = .returned (.tuple #[.string ⟨(Lib.trimPrefix (restL l) [35]).toArray⟩, .bool (Lib.hasPrefix (restL l) [35])]) ∧ w' = W := fun W => Tryz.strings_CutPrefix ⟨(restL l).toArray⟩ ⟨#[35]⟩ W
    have i1 : ¬ (24 : Int) < ((wordL l).length : Int) := by omega
    have i2 : ((wordL l).length : Int) ≤ 24 := by omega
    have i3 : (0 : Int) ≤ ((wordL l).length : Int) := by omega
    have HG := hide hg
    have hrl : (restL l).length = l.length - (wordL l).length := by rw [← word_drop, List.length_drop]
    by_cases hm : (restL l).head? = some 35
    · obtain ⟨q, hq⟩ : ∃ q, restL l = 35 :: q := by
        match restL l, hm with
        | c :: q, hm => injection hm with hm; exact ⟨q, by rw [hm]⟩
      have HO := hide (show wordO l = typedL (upL (wordL l)) q by unfold wordO; rw [if_pos hm, hq]; rfl)
      have HL2 : Hid (l.length = (wordL l).length + 1 + q.length) := by
        show _ = _
        rw [hq, List.length_cons] at hrl
        omega
      rw [hq] at c2 x2
      rw [show Lib.trimPrefix (35 :: q) [35] = q by simp [Lib.trimPrefix, Lib.hasPrefix, List.isPrefixOf], show Lib.hasPrefix (35 :: q) [35] = true by simp [Lib.hasPrefix, List.isPrefixOf]] at c2
      have c3 := fun W h => typed_any (upL (wordL l)) q (by have := HL2.out; omega) W h
      have HS := hide (show ∀ v, TokOut (typedL (upL (wordL l)) q) q.length v → ∃ t k b, v = .tuple #[tkA t 0, .int .i64 k, .bool b] ∧ ∀ k', k' = wrap64 (((wordL l).length : Int) + 1 + k) → TokOut (wordO l) l.length (.tuple #[tkA t 0, .int .i64 k', .bool b]) by
        intro v hv
        cases ho : typedL (upL (wordL l)) q with
        | none =>
          rw [ho] at hv
          obtain ⟨t, n, rfl⟩ := hv
          refine ⟨t, n, false, rfl, fun k' _ => ?_⟩
          rw [HO.out, ho]
          exact ⟨t, k', rfl⟩
        | some x =>
          obtain ⟨t, r⟩ := x
          rw [ho] at hv
          refine ⟨t, _, true, hv, fun k' hk => ?_⟩
          rw [HO.out, ho]
          show _ = _
          have h1 := HL2.out
          have hsuf : r.length ≤ q.length := (typed_suf ho).length_le
          rw [hk, show ((wordL l).length : Int) + 1 + ((q.length - r.length : Nat) : Int) = ((l.length - r.length : Nat) : Int) by omega, wrap64_nat _ (by omega)])
      generalize ((wordL l).length : Int) = n at *
      generalize (⟨(upL (wordL l)).toArray⟩ : ByteArray) = nm at *
      generalize (⟨(wordL l).toArray⟩ : ByteArray) = wd at *
      generalize (⟨(35 :: q).toArray⟩ : ByteArray) = rs at *
      generalize (⟨q.toArray⟩ : ByteArray) = qs at *
      generalize (⟨l.toArray⟩ : ByteArray) = s at *
      clear hlong hle hl hsz hg hm hq hrl HO HL2
      go_enter Tryz.func83, Tryz.ntmps83
      go_wp2_with fail
      refine (c0 _).mono ?_
      rintro e w1 ⟨rfl, hw1⟩
      subst hw1
      go_wp2_with fail
      refine (c1 _).mono ?_
      rintro e w1 ⟨rfl, hb1⟩
      have B1 := hide ((Below.refl (w.heap.size + 1) (w.alloc Z5)).trans (hb1.mono (by simp)))
      clear hb1
      go_wp2_with fail
      refine (c2 _).mono ?_
      rintro e w2 ⟨rfl, hw2⟩
      subst hw2
      go_wp2_with fail
      refine (c3 _ (HG.out.below (((Below.refl w.heap.size w).alloc (Nat.le_refl _) Z5).trans (B1.out.mono (Nat.le_succ _))) HG.out.lt)).mono ?_
      rintro e w3 ⟨⟨v, rfl, hv⟩, hb3⟩
      obtain ⟨t, k, b, rfl, hv2⟩ := HS.out v hv
      have B3 := B1.out.trans (hb3.mono (by have := B1.out.size; simpa using this))
      have z3 := B3.size
      rw [World.size_alloc] at z3
      have R := fun o => res5 (B3.alloc z3 o)
      have k0 := fun o => (R o).1.1
      have k1 := fun o => (R o).1.2.1
      have k2 := fun o => (R o).1.2.2.1
      have k3 := fun o => (R o).1.2.2.2.1
      have k4 := fun o => (R o).1.2.2.2.2
      have f0 := fun o => (R o).2.1
      have f1 := fun o => (R o).2.2.1
      have f2 := fun o => (R o).2.2.2.1
      have f3 := fun o => (R o).2.2.2.2.1
      have f4 := fun o => (R o).2.2.2.2.2
      have HB3 := hide (((Below.refl w.heap.size w).alloc (Nat.le_refl _) Z5).trans (B3.mono (Nat.le_succ _)))
      have HV := hide hv2
      clear R
      clear hv hv2 hb3 B1 B3 HS c0 c1 c2 c3
      unfold tkA at HV ⊢
      go_wp2
      refine bodyPost_ret (v := .tuple #[tkA t 0, .int .i64 (wrap64 (n + 1 + k)), .bool b]) ?_ rfl ⟨⟨_, rfl, HV.out _ rfl⟩, ?_⟩
      · simp [results, Tryz.results83, go_sem, tkA, k0, k1, k2, k3, k4]
      · exact below5L (HB3.out.alloc (by omega) _) (Nat.le_refl _) _ _ _ _ _
    · have HO := hide (show wordO l = some (wordT (upL (wordL l)), restL l) by unfold wordO; rw [if_neg hm, if_pos (by omega)])
      have hp : Lib.hasPrefix (restL l) [35] = false := by
        match restL l, hm with
        | [], _ => rfl
        | c :: q, hm =>
          show ((35 : UInt8) == c && _) = false
          rw [Bool.and_eq_false_iff]
          left
          rw [beq_eq_false_iff_ne]
          intro h
          exact hm (by rw [← h]; rfl)
      rw [hp] at c2
      have HK : Hid (((wordL l).length : Int) = ((l.length - (restL l).length : Nat) : Int)) := by
        show _ = _
        omega
      have HT : Hid (tkA (wordT (upL (wordL l))) 0 = .agg #[.int .i64 1, .string ⟨(upL (wordL l)).toArray⟩, .int .i64 0, .int .i64 0, .int .i64 0]) := rfl
      generalize ((wordL l).length : Int) = n at *
      generalize (⟨(upL (wordL l)).toArray⟩ : ByteArray) = nm at *
      generalize (⟨(wordL l).toArray⟩ : ByteArray) = wd at *
      generalize (⟨(Lib.trimPrefix (restL l) [35]).toArray⟩ : ByteArray) = qs at *
      generalize (⟨(restL l).toArray⟩ : ByteArray) = rs at *
      generalize (⟨l.toArray⟩ : ByteArray) = s at *
      clear hlong hle hl hsz hg hm hrl hp
      go_enter Tryz.func83, Tryz.ntmps83
      go_wp2_with fail
      refine (c0 _).mono ?_
      rintro e w1 ⟨rfl, hw1⟩
      subst hw1
      go_wp2_with fail
      refine (c1 _).mono ?_
      rintro e w1 ⟨rfl, hb1⟩
      have B3 := (Below.refl (w.heap.size + 1) (w.alloc Z5)).trans (hb1.mono (by simp))
      obtain ⟨⟨k0, k1, k2, k3, k4⟩, f0, f1, f2, f3, f4⟩ := res5 B3
      have HB3 := hide (((Below.refl w.heap.size w).alloc (Nat.le_refl _) Z5).trans (B3.mono (Nat.le_succ _)))
      clear hb1 B3
      go_wp2_with fail
      refine (c2 _).mono ?_
      rintro e w2 ⟨rfl, hw2⟩
      subst hw2
      clear c0 c1 c2
      go_wp2
      refine bodyPost_ret (v := .tuple #[.agg #[.int .i64 1, .string nm, .int .i64 0, .int .i64 0, .int .i64 0], .int .i64 n, .bool true]) ?_ rfl ⟨⟨_, rfl, ?_⟩, ?_⟩
      · simp [results, Tryz.results83, go_sem, k0, k1, k2, k3, k4]
      · rw [HO.out]
        show _ = _
        rw [HT.out, HK.out]
      · exact below5L HB3.out (Nat.le_refl _) _ _ _ _ _
/-- what lex.token answers: the end, or a token -/
def tokO (l : Bs) : Option (Tk × Bs) := if l = [] then some (endT, []) else oneTok l
set_option maxRecDepth 100000 in
set_option maxHeartbeats 3200000 in
theorem token_any (l : Bs) (hl : l.length ≤ 140737488355000) (w : World) (hg : Glo w) : Calls Tryz.prog 69 #[.string ⟨l.toArray⟩] w fun e w' => (∃ v, e = .returned v ∧ TokOut (tokO l) l.length v) ∧ Below w.heap.size w w' := by
  match l with
  | [] =>
    clear hg hl
    go_enter Tryz.func69, Tryz.ntmps69
    go_wp2
    refine bodyPost_ret (v := .tuple #[tkA endT 0, .int .i64 0, .bool true]) ?_ rfl ⟨⟨_, rfl, rfl⟩, ?_⟩
    · simp [results, Tryz.results69, go_sem, tkA, endT]
    · exact (Below.refl _ _).alloc (Nat.le_refl _) _
  | c :: r =>
    have hne := ne_empty c r
    have x0 : ∀ W, (Instr.index 9 (.string ⟨(c :: r).toArray⟩) (.int .i64 0)).run Tryz.prog W = .ok (.int .u8 (c.toNat : Int)) W := run_idx ⟨(c :: r).toArray⟩ 0 c rfl
    have d1 := fun W => isLetter_any c W
    have d2 := fun W => isDigit_any c W
    have B0 := (Below.refl w.heap.size w).alloc (Nat.le_refl _) Z5
    have G0 := hg.below B0 hg.lt
    have E : Hid (tokO (c :: r) = if isLet c = true then wordO (c :: r) else if isDig c = true then (based (c :: r)).map fun x => (numT x.1 0, x.2) else signL (c :: r)) := by
      show (if c :: r = [] then _ else oneTok (c :: r)) = _
      rw [if_neg (by simp)]
      rfl
    cases hL : isLet c with
    | true =>
      have e := E.out
      rw [hL, if_pos rfl] at e
      have c3 := word_any (c :: r) hl (w.alloc Z5) G0
      rw [← e] at c3
      rw [hL] at d1
      generalize tokO (c :: r) = O at *
      generalize (c :: r).length = L at *
      generalize (⟨(c :: r).toArray⟩ : ByteArray) = s at *
      generalize (c.toNat : Int) = x at *
      clear hg G0 E e hL hl d2 B0
      go_enter Tryz.func69, Tryz.ntmps69
      go_wp2_with fail
      refine (d1 _).mono ?_
      rintro e w1 ⟨rfl, hw1⟩
      subst hw1
      go_wp2_with fail
      refine c3.mono ?_
      rintro e w3 ⟨⟨v, rfl, hv⟩, hb3⟩
      obtain ⟨t, k, b, rfl⟩ := hv.form
      have HV := hide hv
      have B3 : Below (w.heap.size + 1) (w.alloc Z5) w3 := by rw [World.size_alloc] at hb3; exact hb3
      obtain ⟨⟨k0, k1, k2, k3, k4⟩, f0, f1, f2, f3, f4⟩ := res5 B3
      have HB3 := hide (((Below.refl w.heap.size w).alloc (Nat.le_refl _) Z5).trans (B3.mono (Nat.le_succ _)))
      clear hv hb3 B3 c3 d1
      unfold tkA at HV ⊢
      go_wp2
      refine bodyPost_ret (v := .tuple #[tkA t 0, .int .i64 k, .bool b]) ?_ rfl ⟨⟨_, rfl, HV.out⟩, ?_⟩
      · simp [results, Tryz.results69, go_sem, tkA, k0, k1, k2, k3, k4]
      · exact below5L HB3.out (Nat.le_refl _) _ _ _ _ _
    | false =>
      cases hD : isDig c with
      | true =>
        have e := E.out
        rw [hL, if_neg (by decide), hD, if_pos rfl] at e
        have c3 := untyped_any (c :: r) hl (w.alloc Z5) G0
        rw [← e] at c3
        rw [hL] at d1
        rw [hD] at d2
        generalize tokO (c :: r) = O at *
        generalize (c :: r).length = L at *
        generalize (⟨(c :: r).toArray⟩ : ByteArray) = s at *
        generalize (c.toNat : Int) = x at *
        clear hg G0 E e hL hD hl B0
        go_enter Tryz.func69, Tryz.ntmps69
        go_wp2_with fail
        refine (d1 _).mono ?_
        rintro e w1 ⟨rfl, hw1⟩
        subst hw1
        go_wp2_with fail
        refine (d2 _).mono ?_
        rintro e w1 ⟨rfl, hw1⟩
        subst hw1
        go_wp2_with fail
        refine c3.mono ?_
        rintro e w3 ⟨⟨v, rfl, hv⟩, hb3⟩
        obtain ⟨t, k, b, rfl⟩ := hv.form
        have HV := hide hv
        have B3 : Below (w.heap.size + 1) (w.alloc Z5) w3 := by rw [World.size_alloc] at hb3; exact hb3
        obtain ⟨⟨k0, k1, k2, k3, k4⟩, f0, f1, f2, f3, f4⟩ := res5 B3
        have HB3 := hide (((Below.refl w.heap.size w).alloc (Nat.le_refl _) Z5).trans (B3.mono (Nat.le_succ _)))
        clear hv hb3 B3 c3 d1 d2
        unfold tkA at HV ⊢
        go_wp2
        refine bodyPost_ret (v := .tuple #[tkA t 0, .int .i64 k, .bool b]) ?_ rfl ⟨⟨_, rfl, HV.out⟩, ?_⟩
        · simp [results, Tryz.results69, go_sem, tkA, k0, k1, k2, k3, k4]
        · exact below5L HB3.out (Nat.le_refl _) _ _ _ _ _
      | false =>
        have e := E.out
        rw [hL, if_neg (by decide), hD, if_neg (by decide)] at e
        have c3 := sign_any (c :: r) (w.alloc Z5) G0
        rw [← e] at c3
        rw [hL] at d1
        rw [hD] at d2
        generalize tokO (c :: r) = O at *
        generalize (c :: r).length = L at *
        generalize (⟨(c :: r).toArray⟩ : ByteArray) = s at *
        generalize (c.toNat : Int) = x at *
        clear hg G0 E e hL hD hl B0
        go_enter Tryz.func69, Tryz.ntmps69
        go_wp2_with fail
        refine (d1 _).mono ?_
        rintro e w1 ⟨rfl, hw1⟩
        subst hw1
        go_wp2_with fail
        refine (d2 _).mono ?_
        rintro e w1 ⟨rfl, hw1⟩
        subst hw1
        go_wp2_with fail
        refine c3.mono ?_
        rintro e w3 ⟨⟨v, rfl, hv⟩, hb3⟩
        obtain ⟨t, k, b, rfl⟩ := hv.form
        have HV := hide hv
        have B3 : Below (w.heap.size + 1) (w.alloc Z5) w3 := by rw [World.size_alloc] at hb3; exact hb3
        obtain ⟨⟨k0, k1, k2, k3, k4⟩, f0, f1, f2, f3, f4⟩ := res5 B3
        have HB3 := hide (((Below.refl w.heap.size w).alloc (Nat.le_refl _) Z5).trans (B3.mono (Nat.le_succ _)))
        clear hv hb3 B3 c3 d1 d2
        unfold tkA at HV ⊢
        go_wp2
        refine bodyPost_ret (v := .tuple #[tkA t 0, .int .i64 k, .bool b]) ?_ rfl ⟨⟨_, rfl, HV.out⟩, ?_⟩
        · simp [results, Tryz.results69, go_sem, tkA, k0, k1, k2, k3, k4]
        · exact below5L HB3.out (Nat.le_refl _) _ _ _ _ _
end Go.Proofs.YtkicbmjjbnblfaaGreatDoor
