/- The walk of ExprNames. -/
import Derived.Test.YtkicbmjjbnblfaaDoorWoW
import Derived.Test.YtkicbmjjbnblfaaDoorHsW
namespace Go.Proofs.YtkicbmjjbnblfaaDoor
open Go.RowKit
theorem mod14 (a : Int) : ∃ I : Nat, (IntKind.u64.wrap a).tmod 14 = (I : Int) ∧ I < 14 := by
  have h0 : 0 ≤ IntKind.u64.wrap a := by
    have e : IntKind.u64.wrap a = a % (2 ^ 64 : Int) := rfl
    rw [e]
    exact Int.emod_nonneg _ (by decide)
  have h1 := Int.tmod_nonneg 14 h0
  have h2 := Int.tmod_lt_of_pos (IntKind.u64.wrap a) (b := 14) (by decide)
  exact ⟨((IntKind.u64.wrap a).tmod 14).toNat, by omega, by omega⟩
theorem own_none (w : World) (e size : Nat) : (w.alloc (.cells #[] e)).ownsRow w.heap.size e size (.slice (some ⟨w.heap.size, 0, none⟩) 0 0) 0 [] :=
  ⟨by simp, .inr ⟨w.heap.size, 0, #[], rfl, Nat.le_refl _, heap_alloc_new w _, Nat.le_refl _, Nat.zero_le _, by simp, by simp⟩⟩
theorem leq_run (T U : ByteArray) (h : Op.stringOp .leq T U = pure (.bool false)) (W : World) : (binOp .leq 9 (.string T) (.string U)).run Tryd.prog W = .ok (.bool false) W := by
  unfold binOp
  simp only [h, Sem.run_pure]
/-- Names, whatever the parts -/
def NmPost (x : List Pv) (w : World) (e : Ending) (w' : World) : Prop := ∃ v, e = .returned (.tuple #[v, .int .i64 (checkP (x.map ptV))]) ∧ (checkP (x.map ptV) = 0 → SLst w' v (nmsS (x.map ptV))) ∧ Below w.heap.size w w'
theorem names_all (v : Value) (x : List Pv) (w : World) (hL : PLst w v x) (hlen : x.length ≤ 4398046510976) (hg : Glo w) : Calls Tryd.prog 16 #[v] w (NmPost x w) :=
  (names_any v x w hL hlen hg).mono fun e w' ⟨h, hb⟩ => by
    rcases h with ⟨h0, rfl⟩ | ⟨h0, u, rfl, hown⟩
    · exact ⟨_, rfl, fun h => absurd h h0, hb⟩
    · exact ⟨u, by rw [h0], fun _ => SLst.of_owns hown, hb⟩
set_option maxRecDepth 100000 in
set_option maxHeartbeats 6400000 in
theorem nx_row (av bv : Value) (a b : List Pv) (z : Int) (w : World) (hA : PLst w av a) (hB : PLst w bv b) (ha : a.length ≤ 1048576) (hb : b.length ≤ 1048576) (hg : Glo w) : Calls Tryd.prog 7 #[av, bv, .int .i64 z] w fun e w' => e = .returned (.bool true) ∧ Below w.heap.size w w' := by
  have c1 := works_ok w hg
  obtain ⟨I, hI, hI14⟩ := mod14 z
  have HG := hide hg
  have HA := hide hA
  have HB := hide hB
  have hla := hide ha
  have hlb := hide hb
  have i3 : (I : Int) < 14 := by omega
  have i4 : (0 : Int) ≤ (I : Int) := by omega
  clear hA hB hg
  go_enter Tryd.func7, Tryd.ntmps7
  go_wp2_with fail
  refine c1.mono ?_
  rintro e w1 ⟨rfl, hb1⟩
  have B1 := hide (hb1.alloc hb1.size (.cells #[] 46))
  have O1 := hide (own_none w1 46 5)
  have HA1 := hide (HA.out.below B1.out (Nat.le_refl _))
  have z1 := hb1.size
  clear c1 hb1
  go_wp2_with (at_builtin; go_must (first
    | (refine wpList_append_parts (by rfl) _ _ (by rfl) w1.heap.size 0 (.slice (some ⟨w1.heap.size, 0, none⟩) 0 0) [] (by rfl) O1.out av a (by rfl) HA1.out (by omega) (by simp) ?_; intro v2 w2 hown2 hgrow2; have O2 := hide hown2; have B2 := hide (B1.out.grown hgrow2 B1.out.size (fun r hr => by have := (O1.out.lt r hr).1; omega)); have HB2 := hide (HB.out.below B2.out (Nat.le_refl _)); have z2 := hgrow2.size; clear hown2 hgrow2)
    | (refine wpList_append_parts (by rfl) _ _ (by rfl) w1.heap.size (0 + a.length + b.length) v3 ([] ++ pvsC a ++ pvsC b) (by rfl) (O3.out.alloc _) (.slice (some ⟨w3.heap.size, 0, none⟩) 1 1) [⟨5, 1 + (I : Int), 0, ⟨#[]⟩, ⟨#[]⟩⟩] (by rfl) (PLst.of_owns (own_lit w3 [⟨5, 1 + (I : Int), 0, ⟨#[]⟩, ⟨#[]⟩⟩] _ rfl (by simp))) (by simp; omega) (by simp at z2 z3 ⊢; omega) ?_; intro v4 w4 hown4 hgrow4; have O4 := hide hown4; have B4 := hide ((B3.out.alloc B3.out.size _).grown hgrow4 (by simp; have := B3.out.size; omega) (fun r hr => by have := (O3.out.lt r hr).1; omega)); clear hown4 hgrow4)
    | (refine wpList_append_parts (by rfl) _ _ (by rfl) w1.heap.size (0 + a.length) v2 ([] ++ pvsC a) (by rfl) O2.out bv b (by rfl) HB2.out (by omega) (by simp at z2; omega) ?_; intro v3 w3 hown3 hgrow3; have O3 := hide hown3; have B3 := hide (B2.out.grown hgrow3 B2.out.size (fun r hr => by have := (O2.out.lt r hr).1; omega)); have z3 := hgrow3.size; clear hown3 hgrow3)))
  obtain ⟨pz, hpz⟩ : ∃ pz : Pv, pz = ⟨5, 1 + (I : Int), 0, ⟨#[]⟩, ⟨#[]⟩⟩ := ⟨_, rfl⟩
  have HZ4 : Hid (PLst w4 v4 (a ++ b ++ [pz])) := by
    refine PLst.of_owns (base := w1.heap.size) ?_
    rw [List.length_append, List.length_append, pvsC_append, pvsC_append, hpz]
    have := O4.out
    rw [Nat.zero_add, List.nil_append] at this
    exact this
  have HPZ : Hid ((a ++ b ++ [pz]).map ptV = a.map ptV ++ b.map ptV ++ [opP (1 + (I : Int))]) := by
    show _ = _
    rw [List.map_append, List.map_append, hpz]
    rfl
  have HLZ : Hid ((a ++ b ++ [pz]).length ≤ 3000000) := by
    show _ ≤ _
    rw [List.length_append, List.length_append, List.length_singleton]
    omega
  clear hpz O1 O2 O3 O4 HA1 HB2 B1 B2 B3
  have c5 := names_all av a w4 (HA.out.below B4.out (Nat.le_refl _)) (by omega) (HG.out.on B4.out)
  refine c5.mono ?_
  rintro e w5 ⟨vx, rfl, hsx, hb5⟩
  have B5 := hide (B4.out.trans (hb5.mono B4.out.size))
  have HZ5 := hide (HZ4.out.below hb5 (Nat.le_refl _))
  have HSX := hide hsx
  have c6 := names_all bv b w5 (HB.out.below B5.out (Nat.le_refl _)) (by omega) (HG.out.on B5.out)
  clear c5 hb5 hsx HZ4
  obtain ⟨CA, hCA⟩ : ∃ CA, CA = checkP (a.map ptV) := ⟨_, rfl⟩
  rw [← hCA]
  have HCA := hide hCA
  clear hCA
  go_wp2_with fail
  refine c6.mono ?_
  rintro e w6 ⟨vy, rfl, hsy, hb6⟩
  have B6 := hide (B5.out.trans (hb6.mono B5.out.size))
  have HZ6 := hide (HZ5.out.below hb6 (Nat.le_refl _))
  have HSX6 : Hid (CA = 0 → SLst w6 vx (nmsS (a.map ptV))) := fun h => (HSX.out (by rw [← HCA.out]; exact h)).below hb6 (Nat.le_refl _)
  obtain ⟨CB, hCB⟩ : ∃ CB, CB = checkP (b.map ptV) := ⟨_, rfl⟩
  rw [← hCB] at hsy ⊢
  have HSY := hide hsy
  have HCB := hide hCB
  clear c6 hb6 hsy hCB HSX HZ5
  by_cases ca : ¬ CA = 0
  · have q1 : (CA != 0) = true := by simp [ca]
    go_wp2
    go_ret
    exact ⟨rfl, B6.out⟩
  replace ca : CA = 0 := by omega
  subst ca
  by_cases cb : ¬ CB = 0
  · have q1 : (CB != 0) = true := by simp [cb]
    go_wp2
    go_ret
    exact ⟨rfl, B6.out⟩
  replace cb : CB = 0 := by omega
  subst cb
  have c7 := check_any v4 _ w6 HZ6.out (by have := HLZ.out; omega) (HG.out.on B6.out)
  obtain ⟨CZ, hCZ⟩ : ∃ CZ, CZ = checkP ((a ++ b ++ [pz]).map ptV) := ⟨_, rfl⟩
  rw [← hCZ] at c7
  have HCZ := hide hCZ
  clear hCZ
  go_wp2_with fail
  refine c7.mono ?_
  rintro e w7 ⟨rfl, hb7⟩
  have B7 := hide (B6.out.trans (hb7.mono B6.out.size))
  have HZ7 := hide (HZ6.out.below hb7 (Nat.le_refl _))
  have HSX7 := hide ((show SLst w6 vx (nmsS (a.map ptV)) from by first | exact HSX6.out rfl | exact HSX6.out trivial).below hb7 (Nat.le_refl _))
  have HSY7 := hide ((show SLst w6 vy (nmsS (b.map ptV)) from by first | exact HSY.out rfl | exact HSY.out trivial).below hb7 (Nat.le_refl _))
  clear c7 hb7 HZ6 HSX6 HSY
  by_cases cz : ¬ CZ = 0
  · have q1 : (CZ != 0) = true := by simp [cz]
    go_wp2
    go_ret
    exact ⟨rfl, B7.out⟩
  replace cz : CZ = 0 := by omega
  subst cz
  have c8 := names_all v4 _ w7 HZ7.out (by have := HLZ.out; omega) (HG.out.on B7.out)
  go_wp2_with fail
  refine c8.mono ?_
  rintro e w8 ⟨vl, he8, hsl, hb8⟩
  rw [← HCZ.out] at he8
  subst he8
  have B8 := hide (B7.out.trans (hb8.mono B7.out.size))
  have hsl' := hsl HCZ.out.symm
  rw [HPZ.out] at hsl'
  have HSL := hide hsl'
  have HSX8 := hide (HSX7.out.below hb8 (Nat.le_refl _))
  have HSY8 := hide (HSY7.out.below hb8 (Nat.le_refl _))
  have LX : Hid ((nmsS (a.map ptV)).length ≤ 500) := nms_len (check_parts HCA.out.symm).1
  have LY : Hid ((nmsS (b.map ptV)).length ≤ 500) := nms_len (check_parts HCB.out.symm).1
  have LL : Hid ((nmsS (a.map ptV ++ b.map ptV ++ [opP (1 + (I : Int))])).length ≤ 500) := nms_len (by rw [← HPZ.out]; exact (check_parts HCZ.out.symm).1)
  have HBOTH := hide (nms_both (a.map ptV) (b.map ptV) (1 + (I : Int)))
  have HRISE := hide (nms_rise (a.map ptV ++ b.map ptV ++ [opP (1 + (I : Int))]))
  obtain ⟨XL, hXL⟩ : ∃ XL, XL = nmsS (a.map ptV) := ⟨_, rfl⟩
  obtain ⟨YL, hYL⟩ : ∃ YL, YL = nmsS (b.map ptV) := ⟨_, rfl⟩
  obtain ⟨ZL, hZL⟩ : ∃ ZL, ZL = nmsS (a.map ptV ++ b.map ptV ++ [opP (1 + (I : Int))]) := ⟨_, rfl⟩
  rw [← hXL] at HSX8 LX HBOTH
  rw [← hYL] at HSY8 LY HBOTH
  rw [← hZL] at HSL LL HBOTH HRISE
  clear c8 hsl hsl' hb8 hXL hYL hZL HZ7 HSX7 HSY7 HPZ HLZ HCA HCB HCZ HA HB hla hlb B4 B5 B6 B7 hI
  obtain ⟨xa, xb, xo, xcap, hvx, hxA, hxI⟩ := HSX8.out
  obtain ⟨ya, yb, yo, ycap, hvy, hyA, hyI⟩ := HSY8.out
  obtain ⟨za, zb, zo, zcap, hvl, hZA, hZI⟩ := HSL.out
  have HZA := hide hZA
  have HZI := hide hZI
  obtain ⟨NX, hNX⟩ : ∃ NX, NX = XL.length := ⟨_, rfl⟩
  obtain ⟨NY, hNY⟩ : ∃ NY, NY = YL.length := ⟨_, rfl⟩
  obtain ⟨NZ, hNZ⟩ : ∃ NZ, NZ = ZL.length := ⟨_, rfl⟩
  rw [← hNX] at hvx
  rw [← hNY] at hvy
  rw [← hNZ] at hvl
  have nz : (NZ : Int) ≤ 500 := by have := LL.out; omega
  have nx : (NX : Int) ≤ 500 := by have := LX.out; omega
  have ny : (NY : Int) ≤ 500 := by have := LY.out; omega
  have HNZ := hide hNZ
  subst hvx hvy hvl
  clear hNX hNY hNZ hZA hZI hxA hxI hyA hyI z1 z2 z3
  have HXS := hide HSX8.out
  have HYS := hide HSY8.out
  have HZS := hide HSL.out
  clear HSX8 HSY8 HSL
  go_wp2_with fail
  go_loopw [62] (fun i wr => ∃ k : Nat, k ≤ NZ ∧ i = .int .i64 (k : Int) ∧ Hid (Below w8.heap.size w8 wr)) (fun i _ => NZ - (intOf i).toNat)
  case atStart => exact ⟨0, by omega, rfl, Below.refl _ _⟩
  case round =>
    obtain ⟨k, hk, rfl, hh⟩ := hrel
    have HB := hide hh.out
    clear hh
    by_cases hlt : k < NZ
    · have j1 : (k : Int) < (NZ : Int) := by omega
      have j0 : (0 : Int) ≤ (k : Int) := by omega
      obtain ⟨y, hy⟩ : ∃ y, ZL[k]? = some y := ⟨_, List.getElem?_eq_getElem (by rw [← HNZ.out]; exact hlt)⟩
      obtain ⟨hbw, rfl⟩ := HZA.out (by rw [← HNZ.out]; omega)
      have c0 := (HB.out.cell (p := ⟨zb, zo + k, none⟩) hbw).trans (HZI.out k y hy)
      have CX := hide (fun n => has_any _ XL y (wr.drewN n) (HXS.out.below (below_drawn HB.out n) (Nat.le_refl _)) (by have := LX.out; omega))
      have CY := hide (fun n => has_any _ YL y (wr.drewN n) (HYS.out.below (below_drawn HB.out n) (Nat.le_refl _)) (by have := LY.out; omega))
      have HIN := hide ((HBOTH.out y).1 (List.mem_of_getElem? hy))
      obtain ⟨T, hT⟩ : ∃ T : ByteArray, T = ⟨y.toArray⟩ := ⟨_, rfl⟩
      rw [← hT] at c0 CX CY
      have HY := hide hy
      have HT := hide hT
      clear hy hT
      by_cases hk0 : k = 0
      · subst hk0
        have c0' : wr.cell? ⟨zb, zo, none⟩ = some (.string T) := c0
        clear c0
        by_cases hx : y ∈ XL
        · have CX1 : Hid (∀ n, Calls Tryd.prog 18 #[_, .string T] (wr.drewN n) fun e w' => e = .returned (.bool true) ∧ w' = wr.drewN n) := fun n => by
            have := CX.out n
            rw [decide_eq_true hx] at this
            exact this
          clear CX CY HIN hx
          go_wp2
          go_quiet (first | (go_at_call 18; exact Calls.quiet_of_same (CX1.out _)))
          go_wp2
          go_roundw
          case rel => exact ⟨1, by omega, by go_num, below_drawn HB.out _⟩
          case measure => simp [intOf]; omega
        · have CX1 : Hid (∀ n, Calls Tryd.prog 18 #[_, .string T] (wr.drewN n) fun e w' => e = .returned (.bool false) ∧ w' = wr.drewN n) := fun n => by
            have := CX.out n
            rw [decide_eq_false hx] at this
            exact this
          have CY1 : Hid (∀ n, Calls Tryd.prog 18 #[_, .string T] (wr.drewN n) fun e w' => e = .returned (.bool true) ∧ w' = wr.drewN n) := fun n => by
            have := CY.out n
            rw [decide_eq_true (HIN.out.resolve_left hx)] at this
            exact this
          clear CX CY HIN hx
          go_wp2
          go_quiet (first | (go_at_call 18; (with_reducible exact Calls.quiet_of_same (CX1.out _))) | (go_at_call 18; (with_reducible exact Calls.quiet_of_same (CY1.out _))))
          go_wp2
          go_roundw
          case rel => exact ⟨1, by omega, by go_num, below_drawn HB.out _⟩
          case measure => simp [intOf]; omega
      · obtain ⟨j, hj⟩ : ∃ j, k = j + 1 := ⟨k - 1, by omega⟩
        obtain ⟨u, hu⟩ : ∃ u, ZL[j]? = some u := ⟨_, List.getElem?_eq_getElem (by rw [← HNZ.out]; omega)⟩
        have c1 := (HB.out.cell (p := ⟨zb, zo + j, none⟩) hbw).trans (HZI.out j u hu)
        have hr : ltB u y = true := by
          obtain ⟨h1, e1⟩ := List.getElem?_eq_some_iff.1 hu
          obtain ⟨h2, e2⟩ := List.getElem?_eq_some_iff.1 HY.out
          rw [← e1, ← e2]
          exact List.pairwise_iff_getElem.1 HRISE.out j k h1 h2 (by omega)
        obtain ⟨U, hU⟩ : ∃ U : ByteArray, U = ⟨u.toArray⟩ := ⟨_, rfl⟩
        rw [← hU] at c1
        have q1 : Op.bytesLess T.toList U.toList = false := by
          rw [HT.out, hU, ByteArray.toList_eq, ByteArray.toList_eq, ← ltB_less]
          exact ltB_asym hr
        have q2 : (T.toList == U.toList) = false := by
          rw [beq_text]
          refine decide_eq_false fun e => ?_
          have e2 : y = u := by
            rw [HT.out, hU] at e
            have := congrArg (fun x : ByteArray => x.data.toList) e
            simpa using this
          rw [e2, ltB_irr] at hr
          cases hr
        have hle : Op.stringOp .leq T U = pure (.bool false) := by
          unfold Op.stringOp
          simp only []
          rw [q1, q2]
          rfl
        have hlq : ∀ W, (binOp .leq 9 (.string T) (.string U)).run Tryd.prog W = .ok (.bool false) W := fun W => leq_run T U hle W
        clear q1 q2 hle
        have j2 : (0 : Int) < (k : Int) := by omega
        have j2n : 0 < k := by omega
        have j8 : IntKind.i64.wrap (j : Int) = (j : Int) := by simp [IntKind.wrap, IntKind.bits, IntKind.signed]; omega
        have j3 : (k : Int) - 1 = (j : Int) := by omega
        have j4 : (j : Int) < (NZ : Int) := by omega
        have j5 : (0 : Int) ≤ (j : Int) := by omega
        clear hj hk0
        clear hu hU hr
        by_cases hx : y ∈ XL
        · have CX1 : Hid (∀ n, Calls Tryd.prog 18 #[_, .string T] (wr.drewN n) fun e w' => e = .returned (.bool true) ∧ w' = wr.drewN n) := fun n => by
            have := CX.out n
            rw [decide_eq_true hx] at this
            exact this
          clear CX CY HIN hx
          go_wp2
          go_quiet (first | (go_at_call 18; exact Calls.quiet_of_same (CX1.out _)))
          go_wp2
          go_roundw
          case rel => exact ⟨k + 1, by omega, by go_num, below_drawn HB.out _⟩
          case measure => simp [intOf]; omega
        · have CX1 : Hid (∀ n, Calls Tryd.prog 18 #[_, .string T] (wr.drewN n) fun e w' => e = .returned (.bool false) ∧ w' = wr.drewN n) := fun n => by
            have := CX.out n
            rw [decide_eq_false hx] at this
            exact this
          have CY1 : Hid (∀ n, Calls Tryd.prog 18 #[_, .string T] (wr.drewN n) fun e w' => e = .returned (.bool true) ∧ w' = wr.drewN n) := fun n => by
            have := CY.out n
            rw [decide_eq_true (HIN.out.resolve_left hx)] at this
            exact this
          clear CX CY HIN hx
          go_wp2
          go_quiet (first | (go_at_call 18; (with_reducible exact Calls.quiet_of_same (CX1.out _))) | (go_at_call 18; (with_reducible exact Calls.quiet_of_same (CY1.out _))))
          go_wp2
          go_roundw
          case rel => exact ⟨k + 1, by omega, by go_num, below_drawn HB.out _⟩
          case measure => simp [intOf]; omega
    · have HXW := hide (HXS.out.below HB.out (Nat.le_refl _))
      have HYW := hide (HYS.out.below HB.out (Nat.le_refl _))
      have O1 := hide (own_none wr 9 1)
      have HX1 : Hid (SLst (wr.alloc (.cells #[] 9)) (.slice xa NX xcap) XL) := HXW.out.below ((Below.refl wr.heap.size wr).alloc (Nat.le_refl _) _) (Nat.le_refl _)
      have BA := hide ((Below.refl wr.heap.size wr).alloc (Nat.le_refl _) (.cells #[] 9))
      have lx := LX.out
      have ly := LY.out
      go_wp2_with (at_builtin; go_must (first
        | (refine wpList_append_texts (by rfl) _ _ (by rfl) wr.heap.size 0 (.slice (some ⟨wr.heap.size, 0, none⟩) 0 0) [] (by rfl) O1.out (.slice xa NX xcap) XL (by rfl) HX1.out (by omega) (by simp) ?_; intro t2 y2 hown2 hgrow2; have O2 := hide hown2; have C2 := hide (BA.out.grown hgrow2 BA.out.size (fun r hr => by have := (O1.out.lt r hr).1; omega)); have HY2 := hide (HYW.out.below C2.out (Nat.le_refl _)); clear hown2 hgrow2)
        | (refine wpList_append_texts (by rfl) _ _ (by rfl) wr.heap.size (0 + XL.length) t2 ([] ++ XL.map encStr) (by rfl) O2.out (.slice ya NY ycap) YL (by rfl) HY2.out (by omega) C2.out.size ?_; intro t3 y3 hown3 hgrow3; have O3 := hide hown3; have C3 := hide (C2.out.grown hgrow3 C2.out.size (fun r hr => by have := (O2.out.lt r hr).1; omega)); clear hown3 hgrow3; obtain ⟨ta, tcap, ht3, htc⟩ := own_form3 O3.out; subst ht3)))
      have BW := hide (C3.out)
      have B9 := hide ((B8.out.trans (HB.out.mono B8.out.size)).trans (C3.out.mono (B8.out.trans (HB.out.mono B8.out.size)).size))
      have HZW : Hid (SLst y3 (.slice za NZ zcap) ZL) := (HZS.out.below HB.out (Nat.le_refl _)).below C3.out (Nat.le_refl _)
      have HTW : Hid (SLst y3 (.slice ta (0 + XL.length + YL.length) tcap) (XL ++ YL)) := by
        have h := O3.out
        rw [List.nil_append, ← List.map_append] at h
        have e : 0 + XL.length + YL.length = (XL ++ YL).length := by rw [List.length_append]; omega
        rw [e] at h ⊢
        exact SLst.of_owns h
      obtain ⟨ta2, tb, tq, tc2, hvt, hTA, hTI⟩ := HTW.out
      injection hvt with e1 e2 e3
      subst e1 e3
      obtain ⟨NT, hNT⟩ : ∃ NT, NT = 0 + XL.length + YL.length := ⟨_, rfl⟩
      rw [← hNT] at e2
      have HE2 := hide e2
      have nt : (NT : Int) ≤ 1000 := by omega
      have HTA := hide hTA
      have HTI := hide hTI
      have HNT := hide hNT
      clear O1 O2 O3 C2 C3 HX1 HY2 HXW HYW BA hNT htc hTA hTI e2 HTW HZI HZA
      go_wp2_with fail
      go_loopw [104] (fun i wt => ∃ k : Nat, k ≤ NT ∧ i = .int .i64 (k : Int) ∧ Hid (Below y3.heap.size y3 wt)) (fun i _ => NT - (intOf i).toNat)
      case atStart => exact ⟨0, by omega, rfl, Below.refl _ _⟩
      case round =>
        obtain ⟨k2, hk2, rfl, hh⟩ := hrel
        have HB2 := hide hh.out
        clear hh
        by_cases hlt2 : k2 < NT
        · have j1 : (k2 : Int) < (NT : Int) := by omega
          have j0 : (0 : Int) ≤ (k2 : Int) := by omega
          have f1 : (k2 : Int) < ((XL.length + YL.length : Nat) : Int) := by have := HNT.out; omega
          have f2 : (k2 : Int) < (XL.length : Int) + (YL.length : Int) := by have := HNT.out; omega
          have f3 : k2 < XL.length + YL.length := by have := HNT.out; omega
          obtain ⟨y, hy⟩ : ∃ y, (XL ++ YL)[k2]? = some y := ⟨_, List.getElem?_eq_getElem (by rw [← HE2.out]; exact hlt2)⟩
          obtain ⟨hbw, rfl⟩ := HTA.out (by rw [← HE2.out]; omega)
          have c0 := (HB2.out.cell (p := ⟨tb, tq + k2, none⟩) hbw).trans (HTI.out k2 y hy)
          have cH := has_any _ ZL y wr (HZW.out.below HB2.out (Nat.le_refl _)) (by have := LL.out; omega)
          have hin : y ∈ ZL := (HBOTH.out y).2 (List.mem_append.1 (List.mem_of_getElem? hy))
          rw [decide_eq_true hin] at cH
          obtain ⟨T, hT⟩ : ∃ T : ByteArray, T = ⟨y.toArray⟩ := ⟨_, rfl⟩
          rw [← hT] at c0 cH
          clear hy hT hin
          go_wp2_with fail
          refine cH.mono ?_
          rintro e w11 ⟨rfl, rfl⟩
          clear cH
          go_wp2
          go_roundw
          case rel => exact ⟨k2 + 1, by omega, by go_num, HB2.out⟩
          case measure => simp [intOf]; omega
        · have f1 : ¬ (k2 : Int) < ((XL.length + YL.length : Nat) : Int) := by have := HNT.out; omega
          have f2 : ¬ (k2 : Int) < (XL.length : Int) + (YL.length : Int) := by have := HNT.out; omega
          have f3 : ¬ k2 < XL.length + YL.length := by have := HNT.out; omega
          have BF := hide (B9.out.trans (HB2.out.mono B9.out.size))
          go_wp2
          go_ret
          exact ⟨rfl, BF.out⟩
end Go.Proofs.YtkicbmjjbnblfaaDoor
