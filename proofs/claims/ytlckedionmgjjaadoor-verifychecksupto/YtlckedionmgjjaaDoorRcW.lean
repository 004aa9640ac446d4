/- The document's May. -/
import Derived.Test.YtlckedionmgjjaaDoorMg25
import Derived.Test.YtlckedionmgjjaaDoorMg13
import Derived.Test.YtlckedionmgjjaaDoorMg6
namespace Go.Proofs.YtlckedionmgjjaaDoor
open Go.RowKit
theorem beq_dec (b : Int) : (b == 0) = decide (b = 0) := by by_cases h : b = 0 <;> simp [h]
theorem sm_one (ty : List Int) (a : Int) : smB ty a 1 = inB a ty.length := by
  unfold smB fromB
  cases h : inB a ty.length with
  | false => simp
  | true =>
    unfold inB at h
    simp only [Bool.and_eq_true, decide_eq_true_eq] at h
    obtain ⟨p, rfl⟩ : ∃ p : Nat, a = (p : Int) := ⟨a.toNat, by omega⟩
    obtain ⟨x, hx⟩ : ∃ x, ty[p]? = some x := ⟨_, List.getElem?_eq_getElem (by omega)⟩
    have e : (ty.drop p).take 1 = [x] := by
      rw [List.take_one, List.head?_drop, hx]; rfl
    have e2 : (((p : Nat) : Int)).toNat = p := by omega
    have e3 : ((1 : Int)).toNat = 1 := rfl
    rw [e2, e3, e, List.getD_eq_getElem?_getD, hx]
    simp
    omega
set_option maxRecDepth 100000 in
set_option maxHeartbeats 3200000 in
theorem rmay_any (nm ta fv iv ov cv : Value) (ty : List Int) (cd : List Ins) (i : Ins) (w : World) (hT : ILst w ta ty) (hn : ty.length ≤ 1024) (hC : ISt w cv cd) (hm : cd.length ≤ 4096) : Calls Tryd.prog 39 #[.agg #[nm, ta, fv, iv, ov, cv], inA i] w fun e w' => e = .returned (.bool (mayI ty cd.length i)) ∧ Below w.heap.size w w' := by
  obtain ⟨o, a, b, n⟩ := i
  have HB2 : Hid (∀ A B, Below w.heap.size w ((w.alloc A).alloc B)) := bw2 w
  have nxt : Hid (∀ A B W, Below ((w.alloc A).alloc B).heap.size ((w.alloc A).alloc B) W → Below w.heap.size w W) := fun A B W h => (HB2.out A B).trans (h.mono (by simp; omega))
  have m20 := hide (fun W => Four.fitsR_any a n W)
  have m45 : Hid (∀ W m, 1 ≤ m → m ≤ 32 → Below w.heap.size w W → Calls Tryd.prog 64 #[.agg #[nm, ta, fv, iv, ov, cv], .int .i64 a, .int .i64 m] W fun e w' => e = .returned (.bool (smB ty a m)) ∧ Below W.heap.size W w') := fun W m h1 h2 hb => same13_any nm ta fv iv ov cv ty a m W (hT.on hb) hn h1 h2
  have m47 : Hid (∀ W, Below w.heap.size w W → Calls Tryd.prog 66 #[.agg #[nm, ta, fv, iv, ov, cv], .int .i64 a, .int .i64 b] W fun e w' => e = .returned (.bool (blkB ty a b)) ∧ Below W.heap.size W w') := fun W hb => block13_any nm ta fv iv ov cv ty a b W (hT.on hb) hn
  have m462 := hide (fun W => Four.has2_any a b W)
  have m461 := hide (fun W => Four.has1_any a b W)
  have m43a := hide (fun W => Four.type_any a W)
  have m43b := hide (fun W => Four.type_any b W)
  have HM : Hid (∀ o', mayI ty cd.length ⟨o', a, b, n⟩ = ((decide (1 ≤ o') && decide (o' ≤ 12)) && (zeroB (hasN o') ⟨o', a, b, n⟩ && rightB ty cd.length ⟨o', a, b, n⟩))) := fun _ => rfl
  obtain ⟨ca, ccap, rfl⟩ := hC.shape
  obtain ⟨ta', tcap, rfl⟩ := hT.shape
  have n1 : (cd.length : Int) ≤ 4096 := by omega
  have n2 : (ty.length : Int) ≤ 1024 := by omega
  clear hT hC
  unfold inA
  generalize hMM : mayI ty cd.length ⟨o, a, b, n⟩ = R
  by_cases o1 : o = 1
  · subst o1
    by_cases hb : b = 0
    · subst hb
      have HE : Hid (R = Four.fitB a n) := by show _ = _; rw [← hMM, HM.out]; simp [zeroB, hasN, rightB]
      clear HM hMM
      generalize ty.length = N at *
      generalize cd.length = C at *
      go_enter Tryd.func39, Tryd.ntmps39
      go_wp2_with (go_at_call 38; refine (m20.out _).mono ?_; rintro e w1 ⟨rfl, rfl⟩)
      go_ret
      exact ⟨ret_b HE.out.symm, HB2.out _ _⟩
    · have hb' : decide (b = 0) = false := decide_eq_false hb
      have hb2 : (b == 0) = false := by simpa using hb
      have HE : Hid (R = false) := by show _ = _; rw [← hMM, HM.out]; simp [zeroB, hasN, rightB, hb]
      clear HM hMM
      generalize ty.length = N at *
      generalize cd.length = C at *
      go_enter Tryd.func39, Tryd.ntmps39
      go_wp2
      go_ret
      exact ⟨ret_b HE.out.symm, HB2.out _ _⟩
  · have o1' : decide (o = 1) = false := decide_eq_false o1
    have o1b : (o == 1) = false := by simpa using o1
    have o1n : (o != 1) = true := by simp [o1]
    by_cases hz : n = 0
    · subst hz
      have hzd : ((0 : Int) == 0) = true := rfl
      by_cases o2 : o = 2
      · subst o2
        by_cases hb : b = 0
        · subst hb
          have HE : Hid (R = smB ty a 1) := by show _ = _; rw [← hMM, HM.out]; rw [sm_one]; simp [zeroB, hasN, rightB]
          clear HM hMM
          generalize ty.length = N at *
          generalize cd.length = C at *
          go_enter Tryd.func39, Tryd.ntmps39
          go_wp2_with (go_at_call 64; refine (m45.out _ 1 (by omega) (by omega) (HB2.out _ _)).mono ?_; rintro e w1 ⟨rfl, b1⟩; have B1 := hide (nxt.out _ _ _ b1); clear b1)
          go_ret
          exact ⟨ret_b HE.out.symm, B1.out⟩
        · have hb' : decide (b = 0) = false := decide_eq_false hb
          have hb2 : (b == 0) = false := by simpa using hb
          have HE : Hid (R = false) := by show _ = _; rw [← hMM, HM.out]; simp [zeroB, hasN, rightB, hb]
          clear HM hMM
          generalize ty.length = N at *
          generalize cd.length = C at *
          go_enter Tryd.func39, Tryd.ntmps39
          go_wp2
          go_ret
          exact ⟨ret_b HE.out.symm, HB2.out _ _⟩
      · have o2' : decide (o = 2) = false := decide_eq_false o2
        have o2b : (o == 2) = false := by simpa using o2
        by_cases o3 : o = 3
        · subst o3
          by_cases hb : b = 0
          · subst hb
            have HE : Hid (R = smB ty a 1) := by show _ = _; rw [← hMM, HM.out]; rw [sm_one]; simp [zeroB, hasN, rightB]
            clear HM hMM
            generalize ty.length = N at *
            generalize cd.length = C at *
            go_enter Tryd.func39, Tryd.ntmps39
            go_wp2_with (go_at_call 64; refine (m45.out _ 1 (by omega) (by omega) (HB2.out _ _)).mono ?_; rintro e w1 ⟨rfl, b1⟩; have B1 := hide (nxt.out _ _ _ b1); clear b1)
            go_ret
            exact ⟨ret_b HE.out.symm, B1.out⟩
          · have hb' : decide (b = 0) = false := decide_eq_false hb
            have hb2 : (b == 0) = false := by simpa using hb
            have HE : Hid (R = false) := by show _ = _; rw [← hMM, HM.out]; simp [zeroB, hasN, rightB, hb]
            clear HM hMM
            generalize ty.length = N at *
            generalize cd.length = C at *
            go_enter Tryd.func39, Tryd.ntmps39
            go_wp2
            go_ret
            exact ⟨ret_b HE.out.symm, HB2.out _ _⟩
        · have o3' : decide (o = 3) = false := decide_eq_false o3
          have o3b : (o == 3) = false := by simpa using o3
          by_cases o4 : o = 4
          · subst o4
            by_cases h1 : 1 ≤ b
            · have h1d : decide (1 ≤ b) = true := decide_eq_true h1
              by_cases h2 : b ≤ 32
              · have h2d : decide (b ≤ 32) = true := decide_eq_true h2
                have HE : Hid (R = smB ty a b) := by show _ = _; rw [← hMM, HM.out]; simp [zeroB, hasN, rightB, arrB, smB, h1, h2]
                clear HM hMM
                generalize ty.length = N at *
                generalize cd.length = C at *
                go_enter Tryd.func39, Tryd.ntmps39
                go_wp2_with (go_at_call 64; refine (m45.out _ b h1 h2 (HB2.out _ _)).mono ?_; rintro e w1 ⟨rfl, b1⟩; have B1 := hide (nxt.out _ _ _ b1); clear b1)
                go_ret
                exact ⟨ret_b HE.out.symm, B1.out⟩
              · have h2d : decide (b ≤ 32) = false := decide_eq_false h2
                have HE : Hid (R = false) := by show _ = _; rw [← hMM, HM.out]; simp [zeroB, hasN, rightB, arrB, h2]
                clear HM hMM
                generalize ty.length = N at *
                generalize cd.length = C at *
                go_enter Tryd.func39, Tryd.ntmps39
                go_wp2
                go_ret
                exact ⟨ret_b HE.out.symm, HB2.out _ _⟩
            · have h1d : decide (1 ≤ b) = false := decide_eq_false h1
              have HE : Hid (R = false) := by show _ = _; rw [← hMM, HM.out]; simp [zeroB, hasN, rightB, arrB, h1]
              clear HM hMM
              generalize ty.length = N at *
              generalize cd.length = C at *
              go_enter Tryd.func39, Tryd.ntmps39
              go_wp2
              go_ret
              exact ⟨ret_b HE.out.symm, HB2.out _ _⟩
          · have o4' : decide (o = 4) = false := decide_eq_false o4
            have o4b : (o == 4) = false := by simpa using o4
            by_cases o5 : o = 5
            · subst o5
              by_cases h1 : 1 ≤ b
              · have h1d : decide (1 ≤ b) = true := decide_eq_true h1
                by_cases h2 : b ≤ 32
                · have h2d : decide (b ≤ 32) = true := decide_eq_true h2
                  have HE : Hid (R = smB ty a b) := by show _ = _; rw [← hMM, HM.out]; simp [zeroB, hasN, rightB, arrB, smB, h1, h2]
                  clear HM hMM
                  generalize ty.length = N at *
                  generalize cd.length = C at *
                  go_enter Tryd.func39, Tryd.ntmps39
                  go_wp2_with (go_at_call 64; refine (m45.out _ b h1 h2 (HB2.out _ _)).mono ?_; rintro e w1 ⟨rfl, b1⟩; have B1 := hide (nxt.out _ _ _ b1); clear b1)
                  go_ret
                  exact ⟨ret_b HE.out.symm, B1.out⟩
                · have h2d : decide (b ≤ 32) = false := decide_eq_false h2
                  have HE : Hid (R = false) := by show _ = _; rw [← hMM, HM.out]; simp [zeroB, hasN, rightB, arrB, h2]
                  clear HM hMM
                  generalize ty.length = N at *
                  generalize cd.length = C at *
                  go_enter Tryd.func39, Tryd.ntmps39
                  go_wp2
                  go_ret
                  exact ⟨ret_b HE.out.symm, HB2.out _ _⟩
              · have h1d : decide (1 ≤ b) = false := decide_eq_false h1
                have HE : Hid (R = false) := by show _ = _; rw [← hMM, HM.out]; simp [zeroB, hasN, rightB, arrB, h1]
                clear HM hMM
                generalize ty.length = N at *
                generalize cd.length = C at *
                go_enter Tryd.func39, Tryd.ntmps39
                go_wp2
                go_ret
                exact ⟨ret_b HE.out.symm, HB2.out _ _⟩
            · have o5' : decide (o = 5) = false := decide_eq_false o5
              have o5b : (o == 5) = false := by simpa using o5
              by_cases o6 : o = 6
              · subst o6
                have HE : Hid (R = Four.has2 a b) := by show _ = _; rw [← hMM, HM.out]; simp [zeroB, hasN, rightB]
                clear HM hMM
                generalize ty.length = N at *
                generalize cd.length = C at *
                go_enter Tryd.func39, Tryd.ntmps39
                go_wp2_with (go_at_call 65; refine (m462.out _).mono ?_; rintro e w1 ⟨rfl, rfl⟩)
                go_ret
                exact ⟨ret_b HE.out.symm, HB2.out _ _⟩
              · have o6' : decide (o = 6) = false := decide_eq_false o6
                have o6b : (o == 6) = false := by simpa using o6
                by_cases o7 : o = 7
                · subst o7
                  have HE : Hid (R = Four.has1 a b) := by show _ = _; rw [← hMM, HM.out]; simp [zeroB, hasN, rightB]
                  clear HM hMM
                  generalize ty.length = N at *
                  generalize cd.length = C at *
                  go_enter Tryd.func39, Tryd.ntmps39
                  go_wp2_with (go_at_call 65; refine (m461.out _).mono ?_; rintro e w1 ⟨rfl, rfl⟩)
                  go_ret
                  exact ⟨ret_b HE.out.symm, HB2.out _ _⟩
                · have o7' : decide (o = 7) = false := decide_eq_false o7
                  have o7b : (o == 7) = false := by simpa using o7
                  by_cases o8 : o = 8
                  · subst o8
                    cases ha : Four.tyB a with
                    | false =>
                      rw [ha] at m43a
                      have HE : Hid (R = false) := by show _ = _; rw [← hMM, HM.out]; simp [zeroB, hasN, rightB, ha]
                      clear HM hMM
                      generalize ty.length = N at *
                      generalize cd.length = C at *
                      go_enter Tryd.func39, Tryd.ntmps39
                      go_wp2_with (go_at_call 62; first | (with_reducible refine (m43a.out _).mono ?_; rintro e w1 ⟨rfl, rfl⟩) | (with_reducible refine (m43b.out _).mono ?_; rintro e w1 ⟨rfl, rfl⟩))
                      go_ret
                      exact ⟨ret_b HE.out.symm, HB2.out _ _⟩
                    | true =>
                      rw [ha] at m43a
                      cases hb : Four.tyB b with
                      | false =>
                        rw [hb] at m43b
                        have HE : Hid (R = false) := by show _ = _; rw [← hMM, HM.out]; simp [zeroB, hasN, rightB, ha, hb]
                        clear HM hMM
                        generalize ty.length = N at *
                        generalize cd.length = C at *
                        go_enter Tryd.func39, Tryd.ntmps39
                        go_wp2_with (go_at_call 62; first | (with_reducible refine (m43a.out _).mono ?_; rintro e w1 ⟨rfl, rfl⟩) | (with_reducible refine (m43b.out _).mono ?_; rintro e w1 ⟨rfl, rfl⟩))
                        go_ret
                        exact ⟨ret_b HE.out.symm, HB2.out _ _⟩
                      | true =>
                        rw [hb] at m43b
                        have HE : Hid (R = ((a == 1) == (b == 1))) := by
                          show _ = _
                          rw [← hMM, HM.out]
                          simp only [zeroB, hasN, rightB, ha, hb]
                          by_cases e1 : a = 1
                          · by_cases e2 : b = 1 <;> simp [e1, e2]
                          · by_cases e2 : b = 1
                            · simp [e1, e2]
                            · have f1 : (a == 1) = false := by simpa using e1
                              have f2 : (b == 1) = false := by simpa using e2
                              simp [e1, e2]
                              rw [f1, f2]
                        clear HM hMM
                        generalize ty.length = N at *
                        generalize cd.length = C at *
                        go_enter Tryd.func39, Tryd.ntmps39
                        go_wp2_with (go_at_call 62; first | (with_reducible refine (m43a.out _).mono ?_; rintro e w1 ⟨rfl, rfl⟩) | (with_reducible refine (m43b.out _).mono ?_; rintro e w1 ⟨rfl, rfl⟩))
                        go_ret
                        exact ⟨ret_b HE.out.symm, HB2.out _ _⟩
                  · have o8' : decide (o = 8) = false := decide_eq_false o8
                    have o8b : (o == 8) = false := by simpa using o8
                    by_cases o9 : o = 9
                    · subst o9
                      by_cases hb : b = 0
                      · subst hb
                        by_cases h1 : 0 ≤ a
                        · have h1d : decide (0 ≤ a) = true := decide_eq_true h1
                          have HE : Hid (R = decide (a < (cd.length : Int))) := by show _ = _; rw [← hMM, HM.out]; simp [zeroB, hasN, rightB, inB, h1]
                          clear HM hMM
                          generalize ty.length = N at *
                          generalize cd.length = C at *
                          go_enter Tryd.func39, Tryd.ntmps39
                          go_wp2
                          go_ret
                          exact ⟨ret_b HE.out.symm, HB2.out _ _⟩
                        · have h1d : decide (0 ≤ a) = false := decide_eq_false h1
                          have HE : Hid (R = false) := by show _ = _; rw [← hMM, HM.out]; simp [zeroB, hasN, rightB, inB, h1]
                          clear HM hMM
                          generalize ty.length = N at *
                          generalize cd.length = C at *
                          go_enter Tryd.func39, Tryd.ntmps39
                          go_wp2
                          go_ret
                          exact ⟨ret_b HE.out.symm, HB2.out _ _⟩
                      · have hb' : decide (b = 0) = false := decide_eq_false hb
                        have hb2 : (b == 0) = false := by simpa using hb
                        have HE : Hid (R = false) := by show _ = _; rw [← hMM, HM.out]; simp [zeroB, hasN, rightB, hb]
                        clear HM hMM
                        generalize ty.length = N at *
                        generalize cd.length = C at *
                        go_enter Tryd.func39, Tryd.ntmps39
                        go_wp2
                        go_ret
                        exact ⟨ret_b HE.out.symm, HB2.out _ _⟩
                    · have o9' : decide (o = 9) = false := decide_eq_false o9
                      have o9b : (o == 9) = false := by simpa using o9
                      by_cases o10 : o = 10
                      · subst o10
                        by_cases hb : b = 0
                        · subst hb
                          by_cases h1 : 0 ≤ a
                          · have h1d : decide (0 ≤ a) = true := decide_eq_true h1
                            have HE : Hid (R = decide (a < (cd.length : Int))) := by show _ = _; rw [← hMM, HM.out]; simp [zeroB, hasN, rightB, inB, h1]
                            clear HM hMM
                            generalize ty.length = N at *
                            generalize cd.length = C at *
                            go_enter Tryd.func39, Tryd.ntmps39
                            go_wp2
                            go_ret
                            exact ⟨ret_b HE.out.symm, HB2.out _ _⟩
                          · have h1d : decide (0 ≤ a) = false := decide_eq_false h1
                            have HE : Hid (R = false) := by show _ = _; rw [← hMM, HM.out]; simp [zeroB, hasN, rightB, inB, h1]
                            clear HM hMM
                            generalize ty.length = N at *
                            generalize cd.length = C at *
                            go_enter Tryd.func39, Tryd.ntmps39
                            go_wp2
                            go_ret
                            exact ⟨ret_b HE.out.symm, HB2.out _ _⟩
                        · have hb' : decide (b = 0) = false := decide_eq_false hb
                          have hb2 : (b == 0) = false := by simpa using hb
                          have HE : Hid (R = false) := by show _ = _; rw [← hMM, HM.out]; simp [zeroB, hasN, rightB, hb]
                          clear HM hMM
                          generalize ty.length = N at *
                          generalize cd.length = C at *
                          go_enter Tryd.func39, Tryd.ntmps39
                          go_wp2
                          go_ret
                          exact ⟨ret_b HE.out.symm, HB2.out _ _⟩
                      · have o10' : decide (o = 10) = false := decide_eq_false o10
                        have o10b : (o == 10) = false := by simpa using o10
                        by_cases o11 : o = 11
                        · subst o11
                          have HE : Hid (R = blkB ty a b) := by show _ = _; rw [← hMM, HM.out]; simp [zeroB, hasN, rightB]
                          clear HM hMM
                          generalize ty.length = N at *
                          generalize cd.length = C at *
                          go_enter Tryd.func39, Tryd.ntmps39
                          go_wp2_with (go_at_call 66; refine (m47.out _ (HB2.out _ _)).mono ?_; rintro e w1 ⟨rfl, b1⟩; have B1 := hide (nxt.out _ _ _ b1); clear b1)
                          go_ret
                          exact ⟨ret_b HE.out.symm, B1.out⟩
                        · have o11' : decide (o = 11) = false := decide_eq_false o11
                          have o11b : (o == 11) = false := by simpa using o11
                          by_cases o12 : o = 12
                          · subst o12
                            by_cases ha : a = 0
                            · subst ha
                              have HE : Hid (R = decide (b = 0)) := by show _ = _; rw [← hMM, HM.out]; simp [zeroB, hasN, rightB]
                              clear HM hMM
                              generalize ty.length = N at *
                              generalize cd.length = C at *
                              go_enter Tryd.func39, Tryd.ntmps39
                              go_wp2
                              go_ret
                              exact ⟨ret_b (by rw [HE.out]; exact beq_dec b), HB2.out _ _⟩
                            · have ha' : decide (a = 0) = false := decide_eq_false ha
                              have ha2 : (a == 0) = false := by simpa using ha
                              have HE : Hid (R = false) := by show _ = _; rw [← hMM, HM.out]; simp [zeroB, hasN, rightB, ha]
                              clear HM hMM
                              generalize ty.length = N at *
                              generalize cd.length = C at *
                              go_enter Tryd.func39, Tryd.ntmps39
                              go_wp2
                              go_ret
                              exact ⟨ret_b HE.out.symm, HB2.out _ _⟩
                          · have o12' : decide (o = 12) = false := decide_eq_false o12
                            have o12b : (o == 12) = false := by simpa using o12
                            have HE : Hid (R = false) := by
                              show _ = _
                              rw [← hMM, HM.out]
                              by_cases p1 : 1 ≤ o
                              · have p2 : ¬ o ≤ 12 := by omega
                                simp [p2]
                              · simp [p1]
                            clear HM hMM
                            generalize ty.length = N at *
                            generalize cd.length = C at *
                            go_enter Tryd.func39, Tryd.ntmps39
                            go_wp2
                            go_ret
                            exact ⟨ret_b HE.out.symm, HB2.out _ _⟩
    · have hz' : decide (n = 0) = false := decide_eq_false hz
      have hz2 : (n == 0) = false := by simpa using hz
      have hzn : (n != 0) = true := by simp [hz]
      have HE : Hid (R = false) := by
        show _ = _
        rw [← hMM, HM.out]
        have hzz : zeroB (hasN o) ⟨o, a, b, n⟩ = false := by
          unfold zeroB hasN
          rw [if_neg o1]
          split
          · simp [hz]
          · split <;> simp [hz]
        rw [hzz]; simp
      clear HM hMM
      generalize ty.length = N at *
      generalize cd.length = C at *
      go_enter Tryd.func39, Tryd.ntmps39
      go_wp2
      go_ret
      exact ⟨ret_b HE.out.symm, HB2.out _ _⟩
end Go.Proofs.YtlckedionmgjjaaDoor
